/- Several texts in one: Hm, Ha, Hb. -/
import Derived.Test.YtpabbmiibehfjaaGreatDoorGd
import Derived.Test.YtpabbmiibehfjaaGreatDoorGa
import Derived.Maps.OwnSet
import Derived.Maps.OwnOps
import Derived.Deep.OwnRows
import Derived.StringKeys
import Derived.DeepKeys4
import Derived.MapViews
import Derived.Maps.RangeWalk
import Derived.Deep.RegionHeld3
/- Package head: what a head holds, as lists; what its calls make of it. -/

namespace Go.Proofs.YtpabbmiibehfjaaGreatDoor
set_option linter.unusedVariables false

abbrev Pt := Int × Int
abbrev Ser := List Lab × List Pt
/-- T rises, within its bounds. -/
structure Rise (ps : List Pt) : Prop where
  up : ps.Pairwise fun p q => p.1 < q.1
  lo : ∀ p ∈ ps, -1099511627776 ≤ p.1
  hi : ∀ p ∈ ps, p.1 ≤ 1099511627776
theorem Rise.nil : Rise [] := ⟨List.Pairwise.nil, by simp, by simp⟩
theorem Rise.filter {ps : List Pt} (h : Rise ps) (f : Pt → Bool) : Rise (ps.filter f) :=
  ⟨h.up.filter f, fun p hp => h.lo p (List.mem_filter.1 hp).1, fun p hp => h.hi p (List.mem_filter.1 hp).1⟩
theorem rise_last {ps : List Pt} {q : Pt} (h : Rise ps) (hq : ps.getLast? = some q) : ∀ p ∈ ps, p.1 ≤ q.1 := by
  intro p hp
  obtain ⟨r, rfl⟩ := List.getLast?_eq_some_iff.1 hq
  rcases List.mem_append.1 hp with h1 | h1
  · exact Int.le_of_lt ((List.pairwise_append.1 h.up).2.2 p h1 q (by simp))
  · simp at h1; rw [h1]; exact Int.le_refl _
theorem Rise.snoc {ps : List Pt} (h : Rise ps) {p : Pt} (h1 : ∀ q, ps.getLast? = some q → q.1 < p.1) (h2 : -1099511627776 ≤ p.1) (h3 : p.1 ≤ 1099511627776) : Rise (ps ++ [p]) := by
  refine ⟨List.pairwise_append.2 ⟨h.up, by simp, fun a ha b hb => ?_⟩, fun q hq => ?_, fun q hq => ?_⟩
  · simp at hb
    subst hb
    cases hl : ps.getLast? with
    | none => rw [List.getLast?_eq_none_iff] at hl; subst hl; simp at ha
    | some q => exact Int.lt_of_le_of_lt (rise_last h hl a ha) (h1 q hl)
  · rcases List.mem_append.1 hq with h' | h'
    · exact h.lo q h'
    · simp at h'; rw [h']; exact h2
  · rcases List.mem_append.1 hq with h' | h'
    · exact h.hi q h'
    · simp at h'; rw [h']; exact h3
/-- Where a set stands among sets that rise: how many are below it. -/
def insAt (S : List (List Lab)) (ls : List Lab) : Nat := S.countP fun s => decide (cmpR s ls < 0)
def Sets (S : List (List Lab)) : Prop := S.Pairwise fun a b => cmpR a b < 0
theorem cmp_lt_trans {a b c : List Lab} (h1 : cmpR a b < 0) (h2 : cmpR b c < 0) : cmpR a c < 0 := (ord_cmpR.all a b c).2.1 h1 (Int.le_of_lt h2)
theorem cmp_gt {a b : List Lab} : 0 < cmpR a b ↔ cmpR b a < 0 := by rw [cmp_anti a b]; omega
theorem sets_mono {S : List (List Lab)} (h : Sets S) (ls : List Lab) : ∀ i j : Nat, i ≤ j → ∀ a b, S[i]? = some a → S[j]? = some b → cmpR b ls < 0 → cmpR a ls < 0 := by
  intro i j hij a b ha hb hc
  by_cases e : i = j
  · subst e; rw [ha] at hb; cases hb; exact hc
  · obtain ⟨hi, rfl⟩ := List.getElem?_eq_some_iff.1 ha
    obtain ⟨hj, rfl⟩ := List.getElem?_eq_some_iff.1 hb
    exact cmp_lt_trans (List.pairwise_iff_getElem.1 h i j hi hj (by omega)) hc
/-- Of a list in which f holds up to somewhere and no more: countP is that place. -/
theorem countP_place {α : Type} (f : α → Bool) : ∀ (l : List α) (k : Nat), k ≤ l.length → (∀ i a, l[i]? = some a → (f a = true ↔ i < k)) → l.countP f = k := by
  intro l
  induction l with
  | nil => intro k hk _; simp at hk; simp [hk]
  | cons x r ih =>
    intro k hk h
    have h0 := h 0 x rfl
    cases k with
    | zero =>
      have hx : f x = false := by
        cases hf : f x
        · rfl
        · have := h0.1 hf; omega
      rw [List.countP_cons_of_neg (by simp [hx])]
      refine ih 0 (Nat.zero_le _) (fun i a ha => ?_)
      have := h (i + 1) a (by simpa using ha)
      exact ⟨fun e => absurd (this.1 e) (by omega), fun e => absurd e (by omega)⟩
    | succ k =>
      have hx : f x = true := h0.2 (by omega)
      rw [List.countP_cons_of_pos hx, ih k (by simpa using hk) (fun i a ha => by have := h (i + 1) a (by simpa using ha); exact ⟨fun e => by have := this.1 e; omega, fun e => this.2 (by omega)⟩)]
/-- countP of what holds on a beginning alone. -/
theorem place_countP {α : Type} (f : α → Bool) : ∀ (l : List α), (∀ i j : Nat, i ≤ j → ∀ a b, l[i]? = some a → l[j]? = some b → f b = true → f a = true) → ∀ i a, l[i]? = some a → (f a = true ↔ i < l.countP f) := by
  intro l
  induction l with
  | nil => intro _ i a ha; simp at ha
  | cons x r ih =>
    intro hm i a ha
    have ih' := ih (fun i j hij a b ha hb => hm (i + 1) (j + 1) (by omega) a b (by simpa using ha) (by simpa using hb))
    by_cases hx : f x = true
    · rw [List.countP_cons_of_pos hx]
      cases i with
      | zero => simp at ha; subst ha; simp [hx]
      | succ i => have := ih' i a (by simpa using ha); exact ⟨fun e => by have := this.1 e; omega, fun e => this.2 (by omega)⟩
    · have hall : ∀ j b, (x :: r)[j]? = some b → ¬ f b = true := fun j b hb hf => hx (hm 0 j (Nat.zero_le _) x b rfl hb hf)
      have h0 : (x :: r).countP f = 0 := List.countP_eq_zero.2 (fun b hb => by
        obtain ⟨j, hj⟩ := List.getElem?_of_mem hb
        exact hall j b hj)
      rw [h0]
      exact ⟨fun hf => absurd hf (hall i a ha), fun h => by omega⟩
theorem take_place {α : Type} (f : α → Bool) (l : List α) (hm : ∀ i j : Nat, i ≤ j → ∀ a b, l[i]? = some a → l[j]? = some b → f b = true → f a = true) : l.take (l.countP f) = l.filter f ∧ l.drop (l.countP f) = l.filter (fun x => !f x) := by
  induction l with
  | nil => simp
  | cons x r ih =>
    have ih' := ih (fun i j hij a b ha hb => hm (i + 1) (j + 1) (by omega) a b (by simpa using ha) (by simpa using hb))
    by_cases hx : f x = true
    · rw [List.countP_cons_of_pos hx, List.take_succ_cons, List.drop_succ_cons, List.filter_cons_of_pos hx, List.filter_cons_of_neg (by simp [hx]), ih'.1, ih'.2]
      exact ⟨rfl, rfl⟩
    · have hall : ∀ b ∈ (x :: r), f b = false := fun b hb => by
        obtain ⟨j, hj⟩ := List.getElem?_of_mem hb
        cases hf : f b
        · rfl
        · exact absurd (hm 0 j (Nat.zero_le _) x b rfl hj hf) hx
      have h0 : (x :: r).countP f = 0 := List.countP_eq_zero.2 (fun b hb => by simp [hall b hb])
      rw [h0, List.take_zero, List.drop_zero]
      exact ⟨(List.filter_eq_nil_iff.2 (fun b hb => by simp [hall b hb])).symm, (List.filter_eq_self.2 (fun b hb => by simp [hall b hb])).symm⟩
theorem rise_mono {ps : List Pt} (h : Rise ps) (f : Int → Bool) (hf : ∀ s t, s ≤ t → f t = true → f s = true) : ∀ i j : Nat, i ≤ j → ∀ a b, ps[i]? = some a → ps[j]? = some b → f b.1 = true → f a.1 = true := by
  intro i j hij a b ha hb hc
  by_cases e : i = j
  · subst e; rw [ha] at hb; cases hb; exact hc
  · obtain ⟨hi, rfl⟩ := List.getElem?_eq_some_iff.1 ha
    obtain ⟨hj, rfl⟩ := List.getElem?_eq_some_iff.1 hb
    exact hf _ _ (Int.le_of_lt (List.pairwise_iff_getElem.1 h.up i j hi hj (by omega))) hc
/-- How many points lie below t. -/
def below (ps : List Pt) (t : Int) : Nat := ps.countP fun p => decide (p.1 < t)
theorem below_take {ps : List Pt} (h : Rise ps) (t : Int) : ps.take (below ps t) = ps.filter (fun p => decide (p.1 < t)) ∧ ps.drop (below ps t) = ps.filter (fun p => decide (t ≤ p.1)) := by
  have h1 := take_place (fun p : Pt => decide (p.1 < t)) ps (rise_mono h (fun x => decide (x < t)) (fun s u hs hu => by simp at hu ⊢; omega))
  refine ⟨h1.1, h1.2.trans ?_⟩
  congr 1
  funext p
  rw [Bool.eq_iff_iff]
  simp
theorem below_iff {ps : List Pt} (h : Rise ps) (t : Int) : ∀ i p, ps[i]? = some p → (p.1 < t ↔ i < below ps t) := by
  intro i p hp
  have := place_countP (fun p : Pt => decide (p.1 < t)) ps (rise_mono h (fun x => decide (x < t)) (fun s u hs hu => by simp at hu ⊢; omega)) i p hp
  unfold below
  simpa using this
theorem below_le (ps : List Pt) (t : Int) : below ps t ≤ ps.length := List.countP_le_length
/-- The series with those points that f holds of, where there are some. -/
def keepS (f : Pt → Bool) (S : List Ser) : List Ser := S.filterMap fun s => if (s.2.filter f).isEmpty then none else some (s.1, s.2.filter f)
/-- A head's series. -/
structure Good (S : List Ser) : Prop where
  sets : Sets (S.map (·.1))
  ok : ∀ s ∈ S, checkR s.1 = 0
  some : ∀ s ∈ S, s.2 ≠ []
  rise : ∀ s ∈ S, Rise s.2
theorem Good.nil : Good [] := ⟨List.Pairwise.nil, by simp, by simp, by simp⟩
def findR (S : List Ser) (ls : List Lab) : Option (List Pt) := (S.find? fun s => decide (s.1 = ls)).map (·.2)
def fateR (lim : Nat) (S : List Ser) (ls : List Lab) (T V : Int) : Int :=
  if checkR ls = 0 ∧ -1099511627776 ≤ T ∧ T ≤ 1099511627776 then
    match findR S ls with
    | none => if S.length = lim then 5 else 1
    | some ps => if (ps.getLastD (0, 0)).1 < T then 1 else if T < (ps.getLastD (0, 0)).1 then 3 else if V = (ps.getLastD (0, 0)).2 then 2 else 4
  else 3
def addR (lim : Nat) (S : List Ser) (ls : List Lab) (T V : Int) : List Ser :=
  if fateR lim S ls T V = 1 then
    match findR S ls with
    | none => S.take (insAt (S.map (·.1)) ls) ++ (ls, [(T, V)]) :: S.drop (insAt (S.map (·.1)) ls)
    | some _ => S.map fun s => if s.1 = ls then (s.1, s.2 ++ [(T, V)]) else s
  else S
theorem sets_ins {S : List (List Lab)} (h : Sets S) {ls : List Lab} (hn : ls ∉ S) : Sets (S.take (insAt S ls) ++ ls :: S.drop (insAt S ls)) := by
  have hp := place_countP (fun s => decide (cmpR s ls < 0)) S (fun i j hij a b ha hb hc => by simp at hc ⊢; exact sets_mono h ls i j hij a b ha hb hc)
  have ht := take_place (fun s => decide (cmpR s ls < 0)) S (fun i j hij a b ha hb hc => by simp at hc ⊢; exact sets_mono h ls i j hij a b ha hb hc)
  unfold insAt
  rw [ht.1, ht.2]
  refine List.pairwise_append.2 ⟨h.filter _, List.pairwise_cons.2 ⟨fun b hb => ?_, h.filter _⟩, fun a ha b hb => ?_⟩
  · have hb' := List.mem_filter.1 hb
    simp at hb'
    rw [← cmp_gt]
    have : cmpR b ls ≠ 0 := fun e => hn ((cmp_zero b ls).1 e ▸ hb'.1)
    omega
  · have ha' := List.mem_filter.1 ha
    simp at ha'
    rcases List.mem_cons.1 hb with rfl | hb
    · exact ha'.2
    · have hb' := List.mem_filter.1 hb
      simp at hb'
      have : cmpR b ls ≠ 0 := fun e => hn ((cmp_zero b ls).1 e ▸ hb'.1)
      exact cmp_lt_trans ha'.2 (cmp_gt.1 (by omega))
theorem find_none {S : List Ser} {ls : List Lab} : findR S ls = none ↔ ls ∉ S.map (·.1) := by
  unfold findR
  rw [Option.map_eq_none_iff, List.find?_eq_none]
  constructor
  · intro h hm
    obtain ⟨s, hs, rfl⟩ := List.mem_map.1 hm
    exact h s hs (by simp)
  · intro h s hs e
    simp at e
    exact h (List.mem_map.2 ⟨s, hs, e⟩)
theorem find_some {S : List Ser} {ls : List Lab} {ps : List Pt} (h : findR S ls = some ps) : (ls, ps) ∈ S := by
  unfold findR at h
  rw [Option.map_eq_some_iff] at h
  obtain ⟨s, hs, rfl⟩ := h
  have h1 := List.find?_some hs
  simp at h1
  rw [← h1]
  exact List.mem_of_find?_eq_some hs
theorem sets_nodup {S : List (List Lab)} (h : Sets S) : S.Nodup := h.imp (fun {a b} hab e => by subst e; have := (cmp_zero a a).2 rfl; omega)
theorem good_one {S : List Ser} (h : Good S) {ls : List Lab} {a b : List Pt} (ha : (ls, a) ∈ S) (hb : (ls, b) ∈ S) : a = b := by
  have hn := sets_nodup h.sets
  obtain ⟨i, hi⟩ := List.getElem?_of_mem ha
  obtain ⟨j, hj⟩ := List.getElem?_of_mem hb
  have e : i = j := by
    have h1 : (S.map (·.1))[i]? = some ls := by rw [List.getElem?_map, hi]; rfl
    have h2 : (S.map (·.1))[j]? = some ls := by rw [List.getElem?_map, hj]; rfl
    exact (List.getElem?_inj (List.getElem?_eq_some_iff.1 h1).1 hn).1 (h1.trans h2.symm)
  subst e
  rw [hi] at hj
  simpa using hj
theorem find_mem {S : List Ser} (h : Good S) {ls : List Lab} {ps : List Pt} (hm : (ls, ps) ∈ S) : findR S ls = some ps := by
  cases hf : findR S ls with
  | none => exact absurd (List.mem_map.2 ⟨_, hm, rfl⟩) (find_none.1 hf)
  | some q => rw [good_one h (find_some hf) hm]
theorem getLastD_of {ps : List Pt} {q : Pt} (h : ps.getLast? = some q) : ps.getLastD (0, 0) = q := by
  rw [List.getLastD_eq_getLast?, h]; rfl
theorem addR_good {lim : Nat} {S : List Ser} (h : Good S) (ls : List Lab) (T V : Int) : Good (addR lim S ls T V) := by
  unfold addR
  split
  · rename_i hf
    have hok : checkR ls = 0 ∧ -1099511627776 ≤ T ∧ T ≤ 1099511627776 := by
      unfold fateR at hf
      split at hf
      · assumption
      · omega
    split
    · rename_i hn
      have hm := find_none.1 hn
      refine ⟨?_, fun s hs => ?_, fun s hs => ?_, fun s hs => ?_⟩
      · rw [List.map_append, List.map_cons, List.map_take, List.map_drop]
        exact sets_ins h.sets hm
      all_goals
        rcases List.mem_append.1 hs with h' | h'
        · first | exact h.ok s (List.mem_of_mem_take h') | exact h.some s (List.mem_of_mem_take h') | exact h.rise s (List.mem_of_mem_take h')
        · rcases List.mem_cons.1 h' with rfl | h'
          · first | exact hok.1 | exact List.cons_ne_nil _ _ | exact ⟨by simp, by simp; exact hok.2.1, by simp; exact hok.2.2⟩
          · first | exact h.ok s (List.mem_of_mem_drop h') | exact h.some s (List.mem_of_mem_drop h') | exact h.rise s (List.mem_of_mem_drop h')
    · rename_i ps hs
      have hmem := find_some hs
      have hmap : (S.map fun s => if s.1 = ls then (s.1, s.2 ++ [(T, V)]) else s).map (·.1) = S.map (·.1) := by
        rw [List.map_map]
        apply List.map_congr_left
        intro s _
        simp only [Function.comp]
        split <;> rfl
      have hpt : ∀ s ∈ S.map (fun s => if s.1 = ls then (s.1, s.2 ++ [(T, V)]) else s), s ∈ S ∨ s = (ls, ps ++ [(T, V)]) := by
        intro s hm
        obtain ⟨t, ht, rfl⟩ := List.mem_map.1 hm
        split
        · rename_i e
          right
          obtain ⟨t1, t2⟩ := t
          simp only at e
          subst e
          rw [good_one h ht hmem]
        · exact .inl ht
      have hlast : ∀ q, ps.getLast? = some q → q.1 < T := by
        intro q hq
        unfold fateR at hf
        rw [if_pos hok, hs] at hf
        simp only [getLastD_of hq] at hf
        split at hf
        · assumption
        · split at hf
          · omega
          · split at hf <;> omega
      refine ⟨by rw [hmap]; exact h.sets, fun s hm => ?_, fun s hm => ?_, fun s hm => ?_⟩
      · rcases hpt s hm with h' | rfl
        · exact h.ok s h'
        · exact hok.1
      · rcases hpt s hm with h' | rfl
        · exact h.some s h'
        · simp
      · rcases hpt s hm with h' | rfl
        · exact h.rise s h'
        · exact (h.rise _ hmem).snoc hlast hok.2.1 hok.2.2
  · exact h
theorem keepS_sub (f : Pt → Bool) (S : List Ser) : ((keepS f S).map (·.1)).Sublist (S.map (·.1)) := by
  unfold keepS
  induction S with
  | nil => simp
  | cons s r ih =>
    rw [List.filterMap_cons]
    split
    · exact List.Sublist.cons _ ih
    · rename_i b hb
      split at hb
      · cases hb
      · cases hb
        rw [List.map_cons, List.map_cons]
        exact List.Sublist.cons_cons _ ih
theorem keepS_mem {f : Pt → Bool} {S : List Ser} {s : Ser} : s ∈ keepS f S ↔ ∃ t ∈ S, t.2.filter f ≠ [] ∧ s = (t.1, t.2.filter f) := by
  unfold keepS
  rw [List.mem_filterMap]
  constructor
  · rintro ⟨t, ht, h⟩
    split at h
    · cases h
    · rename_i hne
      cases h
      exact ⟨t, ht, by simpa using hne, rfl⟩
  · rintro ⟨t, ht, hne, rfl⟩
    exact ⟨t, ht, by rw [if_neg (by simpa using hne)]⟩
theorem keepS_good {S : List Ser} (h : Good S) (f : Pt → Bool) : Good (keepS f S) := by
  refine ⟨h.sets.sublist (keepS_sub f S), fun s hs => ?_, fun s hs => ?_, fun s hs => ?_⟩
  all_goals
    obtain ⟨t, ht, hne, rfl⟩ := keepS_mem.1 hs
    first | exact h.ok t ht | exact hne | exact (h.rise t ht).filter f
theorem addR_len {lim : Nat} {S : List Ser} (ls : List Lab) (T V : Int) (h : S.length ≤ lim) : (addR lim S ls T V).length ≤ lim := by
  unfold addR
  split
  · rename_i hf
    split
    · rename_i hn
      unfold fateR at hf
      split at hf
      · rw [hn] at hf
        simp only at hf
        split at hf
        · omega
        · simp only [List.length_append, List.length_take, List.length_cons, List.length_drop]
          omega
      · omega
    · simpa using h
  · exact h
theorem keepS_len (f : Pt → Bool) (S : List Ser) : (keepS f S).length ≤ S.length := List.length_filterMap_le _ _
end Go.Proofs.YtpabbmiibehfjaaGreatDoor

/- Package head: how its maps and rows lie in memory. -/
namespace Go.Proofs.YtpabbmiibehfjaaGreatDoor
open Go.RowKit Go.Maps
set_option linter.unusedVariables false
set_option maxRecDepth 20000
set_option linter.unusedSectionVars false

/-- A map's type: how its keys and elements are written. -/
structure MapT (κ ε : Type) where
  T : TypeId
  K : TypeId
  E : TypeId
  kv : κ → Value
  kl : κ → Lit
  ok : κ → Prop
  D : Option ε → DataW Unit
  V : Option ε → Value
  R : Value → Option (DataW Unit × List MemPlace)
  under : Tryz.prog.underlying T = some (.map K E)
  law : Keyed Tryz.prog K
  zero : ∀ w : World, (zeroValue E).run Tryz.prog w = .ok (V none) w
  key : ∀ x, ok x → keyOf Tryz.prog K (kv x) = some (kl x)
  keyInv : ∀ v l, keyOf Tryz.prog K v = some l → ∃ x, ok x ∧ v = kv x ∧ l = kl x
  klInj : ∀ x y, ok x → ok y → kl x = kl y → x = y
  klKey : ∀ x, ok x → WideAt.IsKeyLit (kl x)
  rd : ∀ o, R (V o) = some (D o, [])
  rdInv : ∀ v d, R v = some d → ∃ o, v = V o ∧ d = (D o, [])
  Dinj : ∀ a b, D a = D b → a = b

section
variable {κ ε : Type} [DecidableEq κ] (M : MapT κ ε)
/-- The map in block mb: F tells what stands at a key. -/
def MapG (w : World) (mb n : Nat) (F : κ → Option ε) : Prop :=
  ∃ D : DataW Unit, w.ownsMap Tryz.prog M.K M.R mb n D ∧ (∀ x, M.ok x → D.atKey (M.kl x) (M.D none) = M.D (F x)) ∧ (∀ l, Maps.has D l = true → ∃ x, M.ok x ∧ l = M.kl x ∧ (F x).isSome = true) ∧ ∀ x, M.ok x → (F x).isSome = true → Maps.has D (M.kl x) = true
def setK (F : κ → Option ε) (s : κ) (o : Option ε) : κ → Option ε := fun x => if x = s then o else F x
theorem setK_same (F : κ → Option ε) (s : κ) (o : Option ε) : setK F s o s = o := if_pos rfl
theorem setK_other (F : κ → Option ε) {s x : κ} (o : Option ε) (h : x ≠ s) : setK F s o x = F x := if_neg h
theorem mapG_size {w : World} {mb n m : Nat} {F : κ → Option ε} (h : MapG M w mb n F) (hm : n ≤ m) : MapG M w mb m F := by
  obtain ⟨D, h1, h2⟩ := h
  exact ⟨D, h1.mono hm, h2⟩
theorem mapG_kept {w w' : World} {row : Option Nat} {mb n : Nat} {F : κ → Option ε} (h : MapG M w mb n F) (hg : w.grownBy w' row) (h2 : some mb ≠ row) : MapG M w' mb n F := by
  obtain ⟨D, hm, hd⟩ := h
  exact ⟨D, hm.kept hg h2, hd⟩
theorem mapG_stay {w w' : World} {mb n : Nat} {F : κ → Option ε} (h : MapG M w mb n F) (hb : w'.heap[mb]? = w.heap[mb]?) : MapG M w' mb n F := by
  obtain ⟨D, ⟨es, clock, h1, h2⟩, hd⟩ := h
  exact ⟨D, ⟨es, clock, hb.trans h1, h2⟩, hd⟩
theorem mapG_made (w : World) : MapG M (w.alloc (.map #[] 0)) w.heap.size 0 (fun _ => none) :=
  ⟨.map [], World.ownsMap_made w _ _ _, fun _ _ => rfl, fun kl h => by simp [Maps.has] at h, fun s _ h => by simp at h⟩
theorem mapG_lt {w : World} {mb n : Nat} {F : κ → Option ε} (h : MapG M w mb n F) : mb < w.heap.size := by
  obtain ⟨D, hm, _⟩ := h
  exact hm.lt
theorem mapG_map {w : World} {mb n : Nat} {F : κ → Option ε} (h : MapG M w mb n F) : ∃ es c, w.heap[mb]? = some (.map es c) := by
  obtain ⟨D, ⟨es, clock, h1, h2⟩, hd⟩ := h
  exact ⟨es, clock, h1⟩
theorem mapG_look {w : World} {mb n : Nat} {F : κ → Option ε} (h : MapG M w mb n F) (s : κ) (hs : M.ok s) :
    (Instr.lookup M.T (.map (some mb)) (M.kv s) false).run Tryz.prog w = .ok (M.V (F s)) w := by
  obtain ⟨D, hm, hd, _⟩ := h
  obtain ⟨v, ps, hrun, hv⟩ := hm.lookup M.law M.under (M.zero w) (M.rd none) (M.key s hs)
  rw [hd s hs] at hv
  obtain ⟨o, rfl, ho⟩ := M.rdInv _ _ hv
  simp only [Prod.mk.injEq] at ho
  rw [hrun, M.Dinj _ _ ho.1]
theorem mapG_put {w : World} {mb n : Nat} {F : κ → Option ε} (h : MapG M w mb n F) (s : κ) (hs : M.ok s) (hn : n < maxLen) (b : ε) :
    ∃ w', (Instr.mapUpdate M.T (.map (some mb)) (M.kv s) (M.V (some b))).run Tryz.prog w = .ok () w' ∧ MapG M w' mb (n + 1) (setK F s (some b)) ∧ w.grownBy w' (some mb) := by
  obtain ⟨D, hm, hd, hh, hi⟩ := h
  obtain ⟨w', hrun, hm', hg⟩ := hm.update M.law M.under hn (M.key s hs) (M.rd (some b))
  have ne : ∀ x, M.ok x → x ≠ s → M.kl x ≠ M.kl s := fun x hx e e' => e (M.klInj _ _ hx hs e')
  refine ⟨w', hrun, ⟨_, hm', fun x hx => ?_, fun kl hk => ?_, fun x hx hF => ?_⟩, hg⟩
  · by_cases e : x = s
    · subst e
      rw [atKey_put_same hm.isMap (M.klKey x hx), setK_same]
    · rw [atKey_put_other (ne x hx e), hd x hx, setK_other F _ e]
  · by_cases e : kl = M.kl s
    · exact ⟨s, hs, e, by rw [setK_same]; rfl⟩
    · rw [has_put_other e] at hk
      obtain ⟨x, hx, rfl, hF⟩ := hh kl hk
      exact ⟨x, hx, rfl, by rw [setK_other F _ (fun e' => e (by rw [e']))]; exact hF⟩
  · by_cases e : x = s
    · subst e
      exact has_put_same hm.isMap (M.klKey x hx) _
    · rw [has_put_other (ne x hx e)]
      rw [setK_other F _ e] at hF
      exact hi x hx hF
theorem mapG_del {w : World} {mb n : Nat} {F : κ → Option ε} (h : MapG M w mb n F) (s : κ) (hs : M.ok s) (ty : TypeId) :
    ∃ w', (Builtin.delete_ #[M.T, M.K] ty #[.map (some mb), M.kv s]).run Tryz.prog w = .ok (.tuple #[]) w' ∧ MapG M w' mb n (setK F s none) ∧ w.grownBy w' (some mb) := by
  obtain ⟨D, hm, hd, hh, hi⟩ := h
  obtain ⟨w', hrun, hm', ht⟩ := hm.drop M.law M.under (M.key s hs) ty
  have ne : ∀ x, M.ok x → x ≠ s → M.kl x ≠ M.kl s := fun x hx e e' => e (M.klInj _ _ hx hs e')
  refine ⟨w', hrun, ⟨_, hm', fun x hx => ?_, fun kl hk => ?_, fun x hx hF => ?_⟩, ht.grown⟩
  · by_cases e : x = s
    · subst e
      rw [atKey_del_same, setK_same]
    · rw [atKey_del_other (ne x hx e), hd x hx, setK_other F _ e]
  · by_cases e : kl = M.kl s
    · subst e
      rw [has_del_same] at hk
      cases hk
    · rw [has_del_other e] at hk
      obtain ⟨x, hx, rfl, hF⟩ := hh kl hk
      exact ⟨x, hx, rfl, by rw [setK_other F _ (fun e' => e (by rw [e']))]; exact hF⟩
  · by_cases e : x = s
    · subst e
      rw [setK_same] at hF
      cases hF
    · rw [has_del_other (ne x hx e)]
      rw [setK_other F _ e] at hF
      exact hi x hx hF
end

/-! Keys and elements of the head's maps. -/
def ptrD : Option Nat → DataW Unit
  | some b => .lit (.int .i64 b)
  | none => .lit (.int .i64 (-1))
def ptrE : Value → Option (DataW Unit × List MemPlace)
  | .pointer (some ⟨b, 0, none⟩) => some (ptrD (some b), [])
  | .pointer none => some (ptrD none, [])
  | _ => none
def ptrV : Option Nat → Value
  | some b => .pointer (some ⟨b, 0, none⟩)
  | none => .pointer none
theorem ptrD_inj {a b : Option Nat} (h : ptrD a = ptrD b) : a = b := by
  cases a <;> cases b <;> simp only [ptrD, DataW.lit.injEq, Lit.int.injEq, true_and] at h <;> first | rfl | omega | (congr 1; omega)
theorem ptr_inv {v : Value} {y : DataW Unit × List MemPlace} (h : ptrE v = some y) : ∃ o, v = ptrV o ∧ y = (ptrD o, []) := by
  unfold ptrE at h
  split at h
  · rename_i b; cases h; exact ⟨some b, rfl, rfl⟩
  · cases h; exact ⟨none, rfl, rfl⟩
  · cases h
abbrev kn (s : ByteArray) : Lit := .string s.data.toList
theorem kn_inj {s t : ByteArray} (h : kn s = kn t) : s = t := by
  simp only [Lit.string.injEq] at h
  cases s
  cases t
  simp only [ByteArray.mk.injEq]
  exact Array.toList_inj.1 h
theorem law9 : Keyed Tryz.prog 9 := string_keyed Tryz.underlying9
def serM : MapT ByteArray Nat where
  T := 63
  K := 9
  E := 77
  kv := Value.string
  kl := kn
  ok := fun s => s.size ≤ maxLen
  D := ptrD
  V := ptrV
  R := ptrE
  under := Tryz.underlying63
  law := law9
  zero := fun w => by kernel_rfl
  key := fun s h => Go.WideMaps.keyOf_string_mk Tryz.underlying9 h
  keyInv := fun v l h => by
    obtain ⟨s, h1, h2, h3⟩ := Go.WideMaps.string_of_keyOf Tryz.underlying9 h
    exact ⟨s, h3, h1, h2⟩
  klInj := fun x y _ _ h => kn_inj h
  klKey := fun x _ => trivial
  rd := fun o => by cases o <;> rfl
  rdInv := fun v d h => ptr_inv h
  Dinj := fun a b h => ptrD_inj h
/-- A label as a key. -/
def labV (p : Lab) : Value := .agg #[.string p.1, .string p.2]
def okK (p : Lab) : Prop := p.1.size ≤ maxLen ∧ p.2.size ≤ maxLen
def kL (p : Lab) : Lit := .string (keyBytes [.string p.1.data.toList, .string p.2.data.toList])
theorem cells62 : Tryz.prog.cellsOf 62 = 2 := by kernel_rfl
theorem cells9 : Tryz.prog.cellsOf 9 = 1 := by kernel_rfl
theorem keyT62 : Tryz.prog.keyType 62 = true := by kernel_rfl
theorem types_pos : ∃ d, Tryz.prog.types.size + 1 = d + 2 := by
  have h : decide (0 < Tryz.prog.types.size) = true := by kernel_rfl
  have h' : 0 < Tryz.prog.types.size := of_decide_eq_true h
  exact ⟨Tryz.prog.types.size - 1, by omega⟩
theorem lits9 (d : Nat) (s : ByteArray) (h : s.size ≤ maxLen) : Tryz.prog.keyLits (d + 1) 9 [.string s] = some [.string s.data.toList] := by
  simp [Program.keyLits, Tryz.underlying9, h]
theorem keyL (p : Lab) (h : okK p) : keyOf Tryz.prog 62 (labV p) = some (kL p) := by
  obtain ⟨d, hd⟩ := types_pos
  unfold keyOf
  rw [Tryz.underlying62, keyT62, hd]
  have hf : (labV p).formed Tryz.prog 62 = true := by simp [labV, Value.formed, Tryz.underlying62, cells62]
  have hc : (labV p).cells.toList = [.string p.1, .string p.2] := by simp [labV, Value.cells]
  rw [hf, hc]
  have e : Tryz.prog.keyLits (d + 2) 62 [.string p.1, .string p.2] = some [.string p.1.data.toList, .string p.2.data.toList] := by
    unfold Program.keyLits
    simp only [Tryz.underlying62]
    simp [cells62, cells9, lits9 d p.1 h.1, lits9 d p.2 h.2]
  simp [e, kL]
theorem law62' : Go.WideMaps.KeyLaw Tryz.prog 62 := deep_law_laid laidOut (m := 2) (by omega) (of_decide_eq_true (by kernel_rfl)) (by kernel_rfl) (by rw [Tryz.underlying62])
theorem law62 : Keyed Tryz.prog 62 := Keyed.of_law law62'
theorem kL_inj {p q : Lab} (hp : okK p) (hq : okK q) (h : kL p = kL q) : p = q := by
  have := law62.inj (keyL p hp) (h ▸ keyL q hq)
  simp only [labV, Value.agg.injEq, Array.mk.injEq, List.cons.injEq, Value.string.injEq, and_true] at this
  exact Prod.ext this.1 this.2
theorem keyL_inv (v : Value) (l : Lit) (h : keyOf Tryz.prog 62 v = some l) : ∃ p, okK p ∧ v = labV p ∧ l = kL p := by
  obtain ⟨xs, L, rfl, hL, rfl⟩ := keyOf_top (by rw [Tryz.underlying62]) h
  obtain ⟨d, hd⟩ := types_pos
  rw [hd] at hL
  unfold Program.keyLits at hL
  simp only [Tryz.underlying62, cells62] at hL
  split at hL
  · rename_i hc
    obtain ⟨hlen, _⟩ := hc
    obtain ⟨xs⟩ := xs
    match xs, hlen with
    | [a, b], _ =>
      have inv : ∀ (v : Value) (L : List Lit), Tryz.prog.keyLits (d + 1) 9 [v] = some L → ∃ s : ByteArray, v = .string s ∧ s.size ≤ maxLen := by
        intro v L h
        unfold Program.keyLits at h
        simp only [Tryz.underlying9] at h
        cases v <;> simp at h
        exact ⟨_, rfl, h.1⟩
      simp only [List.mapM_cons, List.mapM_nil, List.drop_zero, List.drop_succ_cons, cells9, List.take_succ_cons, List.take_zero] at hL
      cases ha : Tryz.prog.keyLits (d + 1) 9 [a] with
      | none => rw [ha] at hL; simp at hL
      | some la =>
        cases hb : Tryz.prog.keyLits (d + 1) 9 [b] with
        | none => rw [ha, hb] at hL; simp at hL
        | some lb =>
          obtain ⟨s, rfl, hs⟩ := inv a la ha
          obtain ⟨t, rfl, ht⟩ := inv b lb hb
          have h1 := keyL (s, t) ⟨hs, ht⟩
          have h2 : keyOf Tryz.prog 62 (labV (s, t)) = _ := h
          rw [h1] at h2
          exact ⟨(s, t), ⟨hs, ht⟩, rfl, (Option.some.inj h2).symm⟩
  · cases hL
abbrev Sl := Nat × Nat × Nat
def slD : Option Sl → DataW Unit
  | some s => .agg [.lit (.int .i64 s.1), .lit (.int .i64 s.2.1), .lit (.int .i64 s.2.2)]
  | none => .agg []
def slV : Option Sl → Value
  | some s => .slice (some ⟨s.1, 0, none⟩) s.2.1 s.2.2
  | none => .slice none 0 0
def slE : Value → Option (DataW Unit × List MemPlace)
  | .slice (some ⟨g, 0, none⟩) n c => some (slD (some (g, n, c)), [])
  | .slice none 0 0 => some (slD none, [])
  | _ => none
theorem slD_inj {a b : Option Sl} (h : slD a = slD b) : a = b := by
  cases a with
  | none => cases b with
    | none => rfl
    | some y => simp [slD] at h
  | some x => cases b with
    | none => simp [slD] at h
    | some y =>
      obtain ⟨x1, x2, x3⟩ := x
      obtain ⟨y1, y2, y3⟩ := y
      simp only [slD, DataW.agg.injEq, List.cons.injEq, DataW.lit.injEq, Lit.int.injEq, true_and, and_true] at h
      have h1 : x1 = y1 := by omega
      have h2 : x2 = y2 := by omega
      have h3 : x3 = y3 := by omega
      rw [h1, h2, h3]
theorem sl_inv {v : Value} {y : DataW Unit × List MemPlace} (h : slE v = some y) : ∃ o, v = slV o ∧ y = (slD o, []) := by
  unfold slE at h
  split at h
  · rename_i g n c; cases h; exact ⟨some (g, n, c), rfl, rfl⟩
  · cases h; exact ⟨none, rfl, rfl⟩
  · cases h
def posM : MapT Lab Sl where
  T := 64
  K := 62
  E := 75
  kv := labV
  kl := kL
  ok := okK
  D := slD
  V := slV
  R := slE
  under := Tryz.underlying64
  law := law62
  zero := fun w => by kernel_rfl
  key := keyL
  keyInv := keyL_inv
  klInj := fun x y hx hy h => kL_inj hx hy h
  klKey := fun x hx => law62.key (keyL x hx)
  rd := fun o => by cases o <;> rfl
  rdInv := fun v d h => sl_inv h
  Dinj := fun a b h => slD_inj h

/-! Rows. -/
def ptsE : Elem Nat where
  cells b := [.pointer (some ⟨b, 0, none⟩)]
  size := 1
  pos := by decide
  len _ := rfl
  one z v h := by
    simp only [List.mem_cons, List.mem_nil_iff, or_false] at h
    subst h
    rfl
theorem info77 : (Tryz.prog.info? 77).map (fun i => (i.zero, i.size, i.bytes)) = some (some (.pointer none), 1, 8) := by kernel_rfl
theorem ptsT : ElemOf ptsE Tryz.prog 75 77 8 := by
  obtain ⟨i0, hi, hz0, hz1, hz2⟩ := info_parts info77
  exact ⟨Tryz.underlying75, i0, _, hi, hz0, hz1, hz2, rfl⟩
def pntE : Elem Pt where
  cells p := [.int .i64 p.1, .int .u64 p.2]
  size := 2
  pos := by decide
  len _ := rfl
  one p v h := by
    simp only [List.mem_cons, List.mem_nil_iff, or_false] at h
    rcases h with rfl | rfl <;> rfl
theorem info51 : (Tryz.prog.info? 51).map (fun i => (i.zero, i.size, i.bytes)) = some (some (.agg #[.int .i64 0, .int .u64 0]), 2, 16) := by kernel_rfl
theorem pntT : ElemOf pntE Tryz.prog 47 51 16 := by
  obtain ⟨i0, hi, hz0, hz1, hz2⟩ := info_parts info51
  exact ⟨Tryz.underlying47, i0, _, hi, hz0, hz1, hz2, rfl⟩
/-- A slice as it lies in a cell. -/
abbrev Sv := Option Addr × Nat × Nat
def svV (s : Sv) : Value := .slice s.1 s.2.1 s.2.2
def serE : Elem (Sv × Sv) where
  cells p := [svV p.1, svV p.2]
  size := 2
  pos := by decide
  len _ := rfl
  one p v h := by
    simp only [List.mem_cons, List.mem_nil_iff, or_false] at h
    rcases h with rfl | rfl <;> rfl
theorem info49 : (Tryz.prog.info? 49).map (fun i => (i.zero, i.size, i.bytes)) = some (some (.agg #[.slice none 0 0, .slice none 0 0]), 2, 48) := by kernel_rfl
theorem serT : ElemOf serE Tryz.prog 36 49 48 := by
  obtain ⟨i0, hi, hz0, hz1, hz2⟩ := info_parts info49
  exact ⟨Tryz.underlying36, i0, _, hi, hz0, hz1, hz2, rfl⟩
end Go.Proofs.YtpabbmiibehfjaaGreatDoor

/- Package points: places among points. -/
namespace Go.Proofs.YtpabbmiibehfjaaGreatDoor
open Go.RowKit Go.Maps
set_option linter.unusedVariables false
set_option maxRecDepth 20000

theorem pnt_cell {w : World} {a : Option Addr} {ps : List Pt} {L i : Nat} {p : Pt} (hr : SRd pntE w a ps) (hi : ps[i]? = some p) : ∃ b off, a = some ⟨b, off, none⟩ ∧ w.cell? ⟨b, off + i * 2, none⟩ = some (.int .i64 p.1) ∧ w.cell? ⟨b, off + i * 2 + 1, none⟩ = some (.int .u64 p.2) := by
  have hl := (List.getElem?_eq_some_iff.1 hi).1
  obtain ⟨b, off, e, h⟩ := hr.at (by omega)
  exact ⟨b, off, e, h i p 0 _ hi rfl, by rw [Nat.add_assoc]; exact h i p 1 _ hi rfl⟩
set_option maxHeartbeats 1000000 in
theorem c_from (b1 b2 : Nat) (a : Option Addr) (L c : Nat) (ps : List Pt) (t : Int) (i : Nat) (p : Pt) (w : World) (h1 : w.cell? ⟨b1, 0, none⟩ = some (.slice a L c)) (h2 : w.cell? ⟨b2, 0, none⟩ = some (.int .i64 t)) (hr : SRd pntE w a ps) (hL : ps.length = L) (hp : ps[i]? = some p) (hz : L ≤ 140737488355328) :
    Calls Tryz.prog 67 #[.int .i64 i, .pointer (some ⟨b1, 0, none⟩), .pointer (some ⟨b2, 0, none⟩)] w fun e w' => e = .returned (.bool (decide (t ≤ p.1))) ∧ w.grownBy w' none := by
  obtain ⟨b, off, rfl, c0, c1⟩ := pnt_cell (L := L) hr hp
  have hi : i < L := by rw [← hL]; exact (List.getElem?_eq_some_iff.1 hp).1
  have hi' : (i : Int) < (L : Int) := by omega
  obtain ⟨T, V⟩ := p
  simp only at c0 c1 ⊢
  clear hr hL hp c1
  go_enter Tryz.func67, Tryz.ntmps67
  go_wp2
  go_region
  go_wp2
  go_ret
  exact ⟨rfl, gb_drewN w 1⟩
set_option maxHeartbeats 1000000 in
theorem c_to (b1 b2 : Nat) (a : Option Addr) (L c : Nat) (ps : List Pt) (t : Int) (i : Nat) (p : Pt) (w : World) (h1 : w.cell? ⟨b1, 0, none⟩ = some (.slice a L c)) (h2 : w.cell? ⟨b2, 0, none⟩ = some (.int .i64 t)) (hr : SRd pntE w a ps) (hL : ps.length = L) (hp : ps[i]? = some p) (hz : L ≤ 140737488355328) :
    Calls Tryz.prog 59 #[.int .i64 i, .pointer (some ⟨b1, 0, none⟩), .pointer (some ⟨b2, 0, none⟩)] w fun e w' => e = .returned (.bool (decide (t < p.1))) ∧ w.grownBy w' none := by
  obtain ⟨b, off, rfl, c0, c1⟩ := pnt_cell (L := L) hr hp
  have hi : i < L := by rw [← hL]; exact (List.getElem?_eq_some_iff.1 hp).1
  have hi' : (i : Int) < (L : Int) := by omega
  obtain ⟨T, V⟩ := p
  simp only at c0 c1 ⊢
  clear hr hL hp c1
  go_enter Tryz.func59, Tryz.ntmps59
  go_wp2
  go_region
  go_wp2
  go_ret
  exact ⟨rfl, gb_drewN w 1⟩
set_option maxHeartbeats 1000000 in
theorem l_search67 (cb : Array Value) (p1 p2 : Value) (hcb : cb = #[p1, p2]) (p : Nat → Bool) (n : Nat) (w : World) (hn : n ≤ 140737488355328) (hf : ∀ (i : Nat) (w1 : World), i < n → w.grownBy w1 none → Calls Tryz.prog 67 #[.int .i64 i, p1, p2] w1 fun e w' => e = .returned (.bool (p i)) ∧ w1.grownBy w' none) (hm : ∀ a b, a ≤ b → b < n → p a = true → p b = true) :
    Calls Tryz.prog 58 #[.int .i64 n, .func (.func 67) #[] cb] w fun e w' => ∃ k : Nat, e = .returned (.int .i64 k) ∧ k ≤ n ∧ (∀ i, i < n → (p i = true ↔ k ≤ i)) ∧ w.grownBy w' none := by
  subst hcb
  have HF : Hid (∀ (i : Nat) (w1 : World), i < n → w.grownBy w1 none → Calls Tryz.prog 67 #[.int .i64 i, p1, p2] w1 fun e w' => e = .returned (.bool (p i)) ∧ w1.grownBy w' none) := hf
  have HM : Hid (∀ a b, a ≤ b → b < n → p a = true → p b = true) := hm
  clear hf hm
  go_enter Tryz.func58, Tryz.ntmps58
  go_wp2
  go_loopw [5, 6] (fun i j wr => ∃ x y : Nat, i = .int .i64 x ∧ j = .int .i64 y ∧ x ≤ y ∧ y ≤ n ∧ (∀ k, k < x → p k = false) ∧ (∀ k, y ≤ k → k < n → p k = true) ∧ w.grownBy wr none) (fun i j _ => (intOf j).toNat - (intOf i).toNat)
  case atStart => exact ⟨0, n, rfl, rfl, Nat.zero_le _, Nat.le_refl _, fun k h => by omega, fun k h h2 => by omega, World.grownBy.refl _ _⟩
  case round =>
    obtain ⟨x, y, rfl, rfl, hxy, hyn, hlo, hhi, hg⟩ := hrel
    have HLO : Hid (∀ k, k < x → p k = false) := hlo
    have HHI : Hid (∀ k, y ≤ k → k < n → p k = true) := hhi
    have HG : Hid (w.grownBy wr none) := hg
    clear hlo hhi hg
    by_cases hlt : x < y
    · obtain ⟨m, hmm⟩ : ∃ m, m = (x + y) / 2 := ⟨_, rfl⟩
      have hm1 : x ≤ m := by omega
      have hm2 : m < y := by omega
      have hi : (x : Int) < (y : Int) := by omega
      have EM : Hid (((x : Int) + (y : Int)) / 2 = (m : Int)) := by show _ = _; omega
      have HC : Hid (∀ w1 : World, w.grownBy w1 none → Calls Tryz.prog 67 #[.int .i64 m, p1, p2] w1 fun e w' => e = .returned (.bool (p m)) ∧ w1.grownBy w' none) := fun w1 h => HF.out m w1 (by omega) h
      clear hmm
      go_wp2_with fail
      rw [EM.out]
      refine (HC.out wr HG.out).mono ?_
      rintro e w1 ⟨rfl, hg1⟩
      have HG1 : Hid (w.grownBy w1 none) := HG.out.trans hg1
      clear hg1
      cases hp : p m with
      | true =>
        have HP : Hid (p m = true) := hp
        clear hp
        go_wp2
        go_roundw
        case rel => exact ⟨x, m, rfl, rfl, hm1, by omega, HLO.out, fun k h1 h2 => HM.out m k h1 h2 HP.out, HG1.out⟩
        case measure => simp [intOf]; omega
      | false =>
        have HP : Hid (p m = false) := hp
        clear hp
        go_wp2
        go_roundw
        case rel =>
          refine ⟨m + 1, y, by go_num, rfl, by omega, hyn, fun k h1 => ?_, HHI.out, HG1.out⟩
          cases hk : p k with
          | false => rfl
          | true => exact absurd (HM.out k m (by omega) (by omega) hk) (by rw [HP.out]; simp)
        case measure => simp [intOf]; omega
    · have hi : ¬ (x : Int) < (y : Int) := by omega
      obtain rfl : x = y := by omega
      go_wp2
      go_ret
      refine ⟨x, rfl, hyn, fun i hi2 => ⟨fun hp => ?_, fun h => HHI.out i h hi2⟩, HG.out⟩
      by_cases hix : x ≤ i
      · exact hix
      · rw [HLO.out i (by omega)] at hp; cases hp
set_option maxHeartbeats 1000000 in
theorem l_search59 (cb : Array Value) (p1 p2 : Value) (hcb : cb = #[p1, p2]) (p : Nat → Bool) (n : Nat) (w : World) (hn : n ≤ 140737488355328) (hf : ∀ (i : Nat) (w1 : World), i < n → w.grownBy w1 none → Calls Tryz.prog 59 #[.int .i64 i, p1, p2] w1 fun e w' => e = .returned (.bool (p i)) ∧ w1.grownBy w' none) (hm : ∀ a b, a ≤ b → b < n → p a = true → p b = true) :
    Calls Tryz.prog 58 #[.int .i64 n, .func (.func 59) #[] cb] w fun e w' => ∃ k : Nat, e = .returned (.int .i64 k) ∧ k ≤ n ∧ (∀ i, i < n → (p i = true ↔ k ≤ i)) ∧ w.grownBy w' none := by
  subst hcb
  have HF : Hid (∀ (i : Nat) (w1 : World), i < n → w.grownBy w1 none → Calls Tryz.prog 59 #[.int .i64 i, p1, p2] w1 fun e w' => e = .returned (.bool (p i)) ∧ w1.grownBy w' none) := hf
  have HM : Hid (∀ a b, a ≤ b → b < n → p a = true → p b = true) := hm
  clear hf hm
  go_enter Tryz.func58, Tryz.ntmps58
  go_wp2
  go_loopw [5, 6] (fun i j wr => ∃ x y : Nat, i = .int .i64 x ∧ j = .int .i64 y ∧ x ≤ y ∧ y ≤ n ∧ (∀ k, k < x → p k = false) ∧ (∀ k, y ≤ k → k < n → p k = true) ∧ w.grownBy wr none) (fun i j _ => (intOf j).toNat - (intOf i).toNat)
  case atStart => exact ⟨0, n, rfl, rfl, Nat.zero_le _, Nat.le_refl _, fun k h => by omega, fun k h h2 => by omega, World.grownBy.refl _ _⟩
  case round =>
    obtain ⟨x, y, rfl, rfl, hxy, hyn, hlo, hhi, hg⟩ := hrel
    have HLO : Hid (∀ k, k < x → p k = false) := hlo
    have HHI : Hid (∀ k, y ≤ k → k < n → p k = true) := hhi
    have HG : Hid (w.grownBy wr none) := hg
    clear hlo hhi hg
    by_cases hlt : x < y
    · obtain ⟨m, hmm⟩ : ∃ m, m = (x + y) / 2 := ⟨_, rfl⟩
      have hm1 : x ≤ m := by omega
      have hm2 : m < y := by omega
      have hi : (x : Int) < (y : Int) := by omega
      have EM : Hid (((x : Int) + (y : Int)) / 2 = (m : Int)) := by show _ = _; omega
      have HC : Hid (∀ w1 : World, w.grownBy w1 none → Calls Tryz.prog 59 #[.int .i64 m, p1, p2] w1 fun e w' => e = .returned (.bool (p m)) ∧ w1.grownBy w' none) := fun w1 h => HF.out m w1 (by omega) h
      clear hmm
      go_wp2_with fail
      rw [EM.out]
      refine (HC.out wr HG.out).mono ?_
      rintro e w1 ⟨rfl, hg1⟩
      have HG1 : Hid (w.grownBy w1 none) := HG.out.trans hg1
      clear hg1
      cases hp : p m with
      | true =>
        have HP : Hid (p m = true) := hp
        clear hp
        go_wp2
        go_roundw
        case rel => exact ⟨x, m, rfl, rfl, hm1, by omega, HLO.out, fun k h1 h2 => HM.out m k h1 h2 HP.out, HG1.out⟩
        case measure => simp [intOf]; omega
      | false =>
        have HP : Hid (p m = false) := hp
        clear hp
        go_wp2
        go_roundw
        case rel =>
          refine ⟨m + 1, y, by go_num, rfl, by omega, hyn, fun k h1 => ?_, HHI.out, HG1.out⟩
          cases hk : p k with
          | false => rfl
          | true => exact absurd (HM.out k m (by omega) (by omega) hk) (by rw [HP.out]; simp)
        case measure => simp [intOf]; omega
    · have hi : ¬ (x : Int) < (y : Int) := by omega
      obtain rfl : x = y := by omega
      go_wp2
      go_ret
      refine ⟨x, rfl, hyn, fun i hi2 => ⟨fun hp => ?_, fun h => HHI.out i h hi2⟩, HG.out⟩
      by_cases hix : x ≤ i
      · exact hix
      · rw [HLO.out i (by omega)] at hp; cases hp
end Go.Proofs.YtpabbmiibehfjaaGreatDoor

