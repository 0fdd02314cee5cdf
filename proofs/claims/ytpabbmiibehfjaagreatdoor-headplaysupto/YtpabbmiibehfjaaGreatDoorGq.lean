/- Several texts in one: Hz, Ia, Ib. -/
import Derived.Test.YtpabbmiibehfjaaGreatDoorGp
/- Package head: series that are handed out; copied. -/
namespace Go.Proofs.YtpabbmiibehfjaaGreatDoor
open Go.RowKit Go.Maps
set_option linter.unusedVariables false
set_option maxRecDepth 20000

/-- One series of a list that is handed out: its two slices; their blocks are among X. -/
structure SerOk (w : World) (X : Nat → Prop) (r : Sv × Sv) (s : Ser) : Prop where
  ln : r.1.2.1 = s.1.length
  pn : r.2.2.1 = s.2.length
  lab : SOwn labE 62 w 0 (.slice r.1.1 s.1.length r.1.2.2) s.1.length s.1
  pts : SOwn pntE 51 w 0 (.slice r.2.1 s.2.length r.2.2.2) s.2.length s.2
  lx : ∀ x, r.1.1 = some x → X x.block
  px : ∀ x, r.2.1 = some x → X x.block
/-- A list of series that is handed out. -/
def SerOut (w : World) (X : Nat → Prop) (v : Value) (S : List Ser) : Prop :=
  ∃ raw : List (Sv × Sv), SOwn serE 49 w 0 v S.length raw ∧ (∀ k, v.ownBlock = some k → X k) ∧ ∀ (i : Nat) (r : Sv × Sv) (s : Ser), raw[i]? = some r → S[i]? = some s → SerOk w X r s
theorem SerOk.stay {w w' : World} {X X' : Nat → Prop} {r : Sv × Sv} {s : Ser} (h : SerOk w X r s) (hs : ∀ k, k < w.heap.size → X k → w'.heap[k]? = w.heap[k]?) (hX : ∀ k, X k → X' k) : SerOk w' X' r s :=
  ⟨h.ln, h.pn, sown_stay h.lab (fun x hx => hs _ (SOwn.block h.lab x.block (by rw [hx]; rfl)).2 (h.lx x hx)), sown_stay h.pts (fun x hx => hs _ (SOwn.block h.pts x.block (by rw [hx]; rfl)).2 (h.px x hx)), fun x hx => hX _ (h.lx x hx), fun x hx => hX _ (h.px x hx)⟩
theorem sown_stayV {α : Type} {E : Elem α} {e : TypeId} {w w' : World} {base n : Nat} {v : Value} {l : List α} (h : SOwn E e w base v n l) (hb : ∀ k, v.ownBlock = some k → w'.heap[k]? = w.heap[k]?) : SOwn E e w' base v n l := by
  obtain ⟨a, c, rfl⟩ := sown_slice h
  exact sown_stay h (fun x hx => hb _ (by rw [hx]; rfl))
theorem SerOut.stay {w w' : World} {X X' : Nat → Prop} {v : Value} {S : List Ser} (h : SerOut w X v S) (hs : ∀ k, k < w.heap.size → X k → w'.heap[k]? = w.heap[k]?) (hX : ∀ k, X k → X' k) : SerOut w' X' v S := by
  obtain ⟨raw, h1, h2, h3⟩ := h
  exact ⟨raw, sown_stayV h1 (fun k hk => hs k (SOwn.block h1 k hk).2 (h2 k hk)), fun k hk => hX k (h2 k hk), fun i r s hr hsr => (h3 i r s hr hsr).stay hs hX⟩
theorem SerOut.grown {w w' : World} {X : Nat → Prop} {v : Value} {S : List Ser} (h : SerOut w X v S) (hg : w.grownBy w' none) : SerOut w' X v S := h.stay (fun k hk _ => hg.block k hk (by simp)) (fun k h => h)
theorem SerOut.kept {w w' : World} {X B : Nat → Prop} {v : Value} {S : List Ser} (h : SerOut w X v S) (hk : Kept w w' B) (hX : ∀ k, X k → ¬ B k) : SerOut w' X v S := h.stay (fun k hlt hx => hk.block k hlt (hX k hx)) (fun k h => h)
theorem SerOut.nil (w : World) (X : Nat → Prop) : SerOut w X (.slice none 0 0) [] := ⟨[], SOwn.nil 49 w 0, fun k hk => by simp [Value.ownBlock] at hk, fun i r s hr => by simp at hr⟩
theorem isz49 : (Tryz.prog.info? 49).map (·.size) = some 2 := by kernel_rfl
set_option maxHeartbeats 1000000 in
theorem h_copied (a : Option Addr) (L c : Nat) (ls : List Lab) (a' : Option Addr) (M c' : Nat) (ps : List Pt) (w : World) (hr : SRd labE w a ls) (hL : ls.length = L) (hnil : a = none → c = 0) (hz : L ≤ 4398046511000) (hr' : SRd pntE w a' ps) (hM : ps.length = M) (hnil' : a' = none → c' = 0) (hz' : M ≤ 8796093022207) :
    Calls Tryz.prog 39 #[.slice a L c, .slice a' M c'] w fun e w' => ∃ a1 c1 a2 c2, e = .returned (.agg #[.slice a1 L c1, .slice a2 M c2]) ∧ SOwn labE 62 w' w.heap.size (.slice a1 L c1) L ls ∧ SOwn pntE 51 w' w.heap.size (.slice a2 M c2) M ps ∧ w.grownBy w' none := by
  have HC1 : Hid (∀ w1, w.grownBy w1 none → Calls Tryz.prog 62 #[.slice a L c] w1 fun e w' => ∃ a' c', e = .returned (.slice a' L c') ∧ SOwn labE 62 w' w1.heap.size (.slice a' L c') L ls ∧ w1.grownBy w' none) := fun w1 hg => l_cloneL a L c ls w1 (hr.grown hg (by simp)) hL hnil (by omega)
  have HC2 : Hid (∀ w1, w.grownBy w1 none → Calls Tryz.prog 47 #[.slice a' M c'] w1 fun e w' => ∃ a' c', e = .returned (.slice a' M c') ∧ SOwn pntE 51 w' w1.heap.size (.slice a' M c') M ps ∧ w1.grownBy w' none) := fun w1 hg => l_cloneP a' M c' ps w1 (hr'.grown hg (by simp)) hM hnil' (by omega)
  have hga : w.grownBy (w.alloc (.cells #[.slice none 0 0, .slice none 0 0] 49)) none := World.grownBy_alloc w _ none
  have HGA : Hid (w.grownBy (w.alloc (.cells #[.slice none 0 0, .slice none 0 0] 49)) none) := hga
  have HSZ : Hid ((w.alloc (.cells #[.slice none 0 0, .slice none 0 0] 49)).heap.size = w.heap.size + 1) := Array.size_push _
  have HB : Hid ((w.alloc (.cells #[.slice none 0 0, .slice none 0 0] 49)).heap[w.heap.size]? = some (.cells #[.slice none 0 0, .slice none 0 0] 49)) := heap_alloc_new w _
  clear hr hL hnil hr' hM hnil' hga
  go_enter Tryz.func39, Tryz.ntmps39
  go_wp2_with fail
  generalize w.alloc (.cells #[.slice none 0 0, .slice none 0 0] 49) = W at HGA HSZ HB ⊢
  refine (HC1.out _ HGA.out).mono ?_
  rintro e w1 ⟨a1, c1, rfl, ho1, hg1⟩
  have HO1 : Hid (SOwn labE 62 w1 W.heap.size (.slice a1 L c1) L ls) := ho1
  have HG1 : Hid (W.grownBy w1 none) := hg1
  clear ho1 hg1
  go_wp2_with fail
  refine (HC2.out _ (HGA.out.trans HG1.out)).mono ?_
  rintro e w2 ⟨a2, c2, rfl, ho2, hg2⟩
  have HO2 : Hid (SOwn pntE 51 w2 w1.heap.size (.slice a2 M c2) M ps) := ho2
  have HO1' : Hid (SOwn labE 62 w2 W.heap.size (.slice a1 L c1) L ls) := SOwn.kept HO1.out hg2 (by cases a1 <;> simp [Value.ownBlock])
  have HG2 : Hid (W.grownBy w2 none) := HG1.out.trans hg2
  have HB2 : Hid (w2.heap[w.heap.size]? = some (.cells #[.slice none 0 0, .slice none 0 0] 49)) := by
    show _ = _
    rw [HG2.out.block w.heap.size (by rw [HSZ.out]; omega) (by simp)]
    exact HB.out
  have r0 : w2.cell? ⟨w.heap.size, 0, none⟩ = some (.slice none 0 0) := cell_of_row _ w.heap.size 0 _ 49 _ HB2.out
  have r1 : w2.cell? ⟨w.heap.size, 1, none⟩ = some (.slice none 0 0) := cell_of_row _ w.heap.size 1 _ 49 _ HB2.out
  have f0 := free_row HB2.out 0
  have f1 := free_row HB2.out 1
  have HW1 : Hid (w.heap.size + 1 ≤ w1.heap.size) := by have := HG1.out.size; rw [HSZ.out] at this; exact this
  clear ho2 hg2 HB HO1 HG1
  go_wp2
  have gs : w2.grownBy ((w2.setCell ⟨w.heap.size, 0, none⟩ (.slice a1 L c1)).setCell ⟨w.heap.size, 1, none⟩ (.slice a2 M c2)) (some w.heap.size) := gb_trans (gb_set rfl) (gb_set rfl) (fun k hk => .inr hk)
  refine bodyPost_ret (v := .agg #[.slice a1 L c1, .slice a2 M c2]) (results_cell_row Tryz.results39 _ _ w.heap.size 49 _ (0, 0) _ rfl (pair_set HB2.out _ _) Tryz.underlying49 rfl isz49) rfl ⟨a1, c1, a2, c2, rfl, ?_, ?_, ?_⟩
  · refine SOwn.base (SOwn.kept HO1'.out gs ?_) (by rw [HSZ.out]; omega)
    right
    intro e1
    have := (SOwn.block HO1'.out _ e1).1
    rw [HSZ.out] at this
    omega
  · refine SOwn.base (SOwn.kept HO2.out gs ?_) (by have := HW1.out; omega)
    right
    intro e1
    have := (SOwn.block HO2.out _ e1).1
    have := HW1.out
    omega
  · exact gb_trans (HGA.out.trans HG2.out) gs (fun k hk => .inl (by cases hk; exact Nat.le_refl _))
/-- A series is appended to a list that is handed out. -/
theorem out_append {w w' : World} {X : Nat → Prop} {v v' : Value} {S : List Ser} {s : Ser} {a1 a2 : Option Addr} {c1 c2 : Nat} {raw : List (Sv × Sv)}
    (h3 : ∀ (i : Nat) (r : Sv × Sv) (t : Ser), raw[i]? = some r → S[i]? = some t → SerOk w X r t) (hn : SOwn serE 49 w 0 v S.length raw) (hX : ∀ k, v.ownBlock = some k → X k)
    (ho : SOwn serE 49 w' 0 v' (S.length + 1) (raw ++ [((a1, s.1.length, c1), (a2, s.2.length, c2))])) (hg : w.grownBy w' v.ownBlock) (hw : v'.ownBlock = v.ownBlock ∨ v'.ownBlock = some w.heap.size)
    (hl : SOwn labE 62 w 0 (.slice a1 s.1.length c1) s.1.length s.1) (hp : SOwn pntE 51 w 0 (.slice a2 s.2.length c2) s.2.length s.2) {X' : Nat → Prop} (hXX : ∀ k, X k → X' k) (hlx : ∀ x, a1 = some x → X' x.block) (hpx : ∀ x, a2 = some x → X' x.block) (hnew : v'.ownBlock = some w.heap.size → X' w.heap.size) :
    SerOut w' X' v' (S ++ [s]) := by
  have hT : ∀ k, v.ownBlock = some k → Typed w k 49 := fun k hk => by
    obtain ⟨a, c, rfl⟩ := sown_slice hn
    cases a with
    | none => simp [Value.ownBlock] at hk
    | some x => have : x.block = k := by simpa [Value.ownBlock] using hk
                rw [← this]; exact sown_typed hn
  have st : ∀ b t, Typed w b t → t ≠ 49 → w'.heap[b]? = w.heap[b]? := fun b t hb ht => hg.block b (typed_lt hb) (fun e1 => Typed.ne hb (hT b e1.symm) ht rfl)
  have stl : ∀ {a : Option Addr} {n c : Nat} {l : List Lab}, SOwn labE 62 w 0 (.slice a n c) n l → SOwn labE 62 w' 0 (.slice a n c) n l := fun h => sown_stay h (fun x hx => by subst hx; exact st _ _ (sown_typed h) (by decide))
  have stp : ∀ {a : Option Addr} {n c : Nat} {l : List Pt}, SOwn pntE 51 w 0 (.slice a n c) n l → SOwn pntE 51 w' 0 (.slice a n c) n l := fun h => sown_stay h (fun x hx => by subst hx; exact st _ _ (sown_typed h) (by decide))
  have hrl : raw.length = S.length := SOwn.len hn
  refine ⟨raw ++ [((a1, s.1.length, c1), (a2, s.2.length, c2))], by rw [List.length_append]; exact ho, fun k hk => ?_, fun i r t hr ht => ?_⟩
  · rcases hw with h6 | h6
    · exact hXX k (hX k (h6 ▸ hk))
    · have h8 := hnew h6
      rw [h6] at hk; cases hk; exact h8
  · by_cases hi : i < raw.length
    · rw [List.getElem?_append_left hi] at hr
      rw [List.getElem?_append_left (by omega)] at ht
      have h6 := h3 i r t hr ht
      exact ⟨h6.ln, h6.pn, stl h6.lab, stp h6.pts, fun x hx => hXX _ (h6.lx x hx), fun x hx => hXX _ (h6.px x hx)⟩
    · rw [List.getElem?_append_right (by omega)] at hr ht
      rw [hrl] at hr
      obtain ⟨h7, _⟩ := List.getElem?_eq_some_iff.1 hr
      simp at h7
      rw [show i - S.length = 0 by omega] at hr ht
      simp at hr ht
      subst hr ht
      exact ⟨rfl, rfl, stl hl, stp hp, hlx, hpx⟩
end Go.Proofs.YtpabbmiibehfjaaGreatDoor

/- Package head: Select. -/
namespace Go.Proofs.YtpabbmiibehfjaaGreatDoor
open Go.RowKit Go.Maps
set_option linter.unusedVariables false
set_option maxRecDepth 20000

def selS (say : List Lab → Bool) (f t : Int) (S : List Ser) : List Ser := keepS (within f t) (S.filter fun s => say s.1)
theorem keepS_app (g : Pt → Bool) (S T : List Ser) : keepS g (S ++ T) = keepS g S ++ keepS g T := by unfold keepS; rw [List.filterMap_append]
theorem selS_snoc (say : List Lab → Bool) (f t : Int) (S : List Ser) (s : Ser) : selS say f t (S ++ [s]) = selS say f t S ++ (if say s.1 = true ∧ s.2.filter (within f t) ≠ [] then [(s.1, s.2.filter (within f t))] else []) := by
  unfold selS
  rw [List.filter_append, keepS_app]
  congr 1
  by_cases h : say s.1 = true
  · have e1 : [s].filter (fun s => say s.1) = [s] := by simp [h]
    rw [e1]
    unfold keepS
    by_cases h2 : s.2.filter (within f t) = []
    · rw [if_neg (by simp [h2])]
      simp [h2]
    · rw [if_pos ⟨h, h2⟩]
      have h3 : (s.2.filter (within f t)).isEmpty = false := by simpa using h2
      rw [List.filterMap_cons_some (b := (s.1, s.2.filter (within f t))) (by rw [h3]; simp)]
      rfl
  · have e1 : [s].filter (fun s => say s.1) = [] := by simp [h]
    rw [e1, if_neg (fun h' => h h'.1)]
    rfl
theorem selS_len (say : List Lab → Bool) (f t : Int) (S : List Ser) : (selS say f t S).length ≤ S.length := Nat.le_trans (keepS_len _ _) (List.length_filter_le _ _)
set_option maxHeartbeats 8000000 in
theorem h_selectG (base hb lim N P : Nat) (S : List Ser) (B : Nat → Prop) (m1 m2 n : Nat) (es : List Ent) (mv : Value) (say : List Lab → Bool) (f t : Int) (w : World) (h1 : HeadIs w base hb m1 m2 lim n es B) (h3 : es.map entS = S) (h4 : Good S) (h5 : S.length ≤ lim) (h6 : lim ≤ 1024) (h7 : ∀ s ∈ S, s.2.length ≤ P) (hP : P ≤ 8796093022206)
    (hlk : Calls Tryz.prog 36 #[.pointer (some ⟨hb, 0, none⟩), mv] w fun e w' => ∃ (a : Option Addr) (c : Nat) (es' : List Ent), e = .returned (.slice a es'.length c) ∧ SRd ptsE w' a (es'.map (·.p)) ∧ (∀ x ∈ es', x ∈ es) ∧ es'.length ≤ es.length ∧ selS say f t (es'.map entS) = selS say f t S ∧ w.grownBy w' none)
    (hsay : ∀ (w1 : World) (e : Ent), w.grownBy w1 none → e ∈ es → Calls Tryz.prog 38 #[mv, .slice e.la e.ls.length e.lc] w1 fun r w' => r = .returned (.bool (say e.ls)) ∧ w1.grownBy w' none) :
    Calls Tryz.prog 12 #[.pointer (some ⟨hb, 0, none⟩), mv, .int .i64 f, .int .i64 t] w fun e w' => ∃ v, e = .returned v ∧ SerOut w' (fun k => w.heap.size ≤ k) v (selS say f t S) ∧ w.grownBy w' none := by
  have HLK : Hid (Calls Tryz.prog 36 #[.pointer (some ⟨hb, 0, none⟩), mv] w fun e w' => ∃ (a : Option Addr) (c : Nat) (es' : List Ent), e = .returned (.slice a es'.length c) ∧ SRd ptsE w' a (es'.map (·.p)) ∧ (∀ x ∈ es', x ∈ es) ∧ es'.length ≤ es.length ∧ selS say f t (es'.map entS) = selS say f t S ∧ w.grownBy w' none) := hlk
  have HSAY : Hid (∀ (w1 : World) (e : Ent), w.grownBy w1 none → e ∈ es → Calls Tryz.prog 38 #[mv, .slice e.la e.ls.length e.lc] w1 fun r w' => r = .returned (.bool (say e.ls)) ∧ w1.grownBy w' none) := hsay
  have HE : Hid (∀ (e : Ent) (w1 : World), e ∈ es → w.grownBy w1 none → EntIs w1 base e ∧ Rise e.ps ∧ e.ps.length ≤ 8796093022206 ∧ e.ls.length ≤ 16) := fun e w1 he hg => by
    have hm : entS e ∈ S := by rw [← h3]; exact List.mem_map.2 ⟨e, he, rfl⟩
    exact ⟨(h1.ent e he).kept hg, h4.rise _ hm, Nat.le_trans (h7 _ hm) hP, ok_len (h1.ok e he)⟩
  have hel : es.length ≤ 1024 := by rw [← h3, List.length_map] at h5; omega
  clear h1 h3 h4 h5 h6 h7 hP hlk hsay
  go_enter Tryz.func12, Tryz.ntmps12
  go_wp2_with fail
  refine HLK.out.mono ?_
  rintro e w1 ⟨a, c, es', rfl, hr, hsub, hle, hsel, hg1⟩
  have HR : Hid (SRd ptsE w1 a (es'.map (·.p))) := hr
  have HSUB : Hid (∀ x ∈ es', x ∈ es) := hsub
  have HSEL : Hid (selS say f t (es'.map entS) = selS say f t S) := hsel
  have HG1 : Hid (w.grownBy w1 none) := hg1
  obtain ⟨M, hM⟩ : ∃ M, M = es'.length := ⟨_, rfl⟩
  have HM : Hid (M = es'.length) := hM
  have hM2 : M ≤ 1024 := by omega
  rw [← hM]
  clear hr hsub hsel hg1 HLK hM hle
  go_wp2
  go_loopw [9, 19] (fun v i wr => ∃ k : Nat, k ≤ M ∧ i = .int .i64 k ∧ SerOut wr (fun k => w1.heap.size ≤ k) v (selS say f t ((es'.take k).map entS)) ∧ w1.grownBy wr none) (fun _ i _ => M - (intOf i).toNat)
  case atStart => exact ⟨0, Nat.zero_le _, rfl, SerOut.nil _ _, World.grownBy.refl _ _⟩
  case round =>
    obtain ⟨k, hk, rfl, hso, hg⟩ := hrel
    have HG : Hid (w1.grownBy wr none) := hg
    have HGW : Hid (w.grownBy wr none) := HG1.out.trans hg
    obtain ⟨raw, hso1, hso2, hso3⟩ := hso
    obtain ⟨Q, eQ⟩ : ∃ Q, Q = selS say f t ((es'.take k).map entS) := ⟨_, rfl⟩
    rw [← eQ] at hso1 hso3
    have hQl : Q.length ≤ 1024 := by
      rw [eQ]
      refine Nat.le_trans (selS_len _ _ _ _) ?_
      rw [List.length_map, List.length_take]
      omega
    obtain ⟨a9, c9, rfl⟩ := sown_slice hso1
    have HSO : Hid (SerOut wr (fun k => w1.heap.size ≤ k) (.slice a9 Q.length c9) Q) := ⟨raw, hso1, hso2, hso3⟩
    have EQ : Hid (Q = selS say f t ((es'.take k).map entS)) := eQ
    clear hg hso1 hso2 hso3 eQ
    by_cases hlt : k < M
    · have hi : (k : Int) < (M : Int) := by omega
      obtain ⟨e, he⟩ : ∃ e, es'[k]? = some e := ⟨_, List.getElem?_eq_getElem (by have := HM.out; omega)⟩
      obtain ⟨b, off, rfl, hc⟩ := ptr_cell (i := k) (p := e.p) (HR.out.grown HG.out (by simp)) (by rw [List.getElem?_map, he]; rfl)
      have hmem := HSUB.out e (List.mem_of_getElem? he)
      have HME : Hid (e ∈ es) := hmem
      have hnext : selS say f t ((es'.take (k + 1)).map entS) = Q ++ (if say e.ls = true ∧ e.ps.filter (within f t) ≠ [] then [(e.ls, e.ps.filter (within f t))] else []) := by
        rw [List.take_add_one, he, List.map_append, EQ.out]
        exact selS_snoc say f t _ (entS e)
      have HNX : Hid (selS say f t ((es'.take (k + 1)).map entS) = Q ++ (if say e.ls = true ∧ e.ps.filter (within f t) ≠ [] then [(e.ls, e.ps.filter (within f t))] else [])) := hnext
      obtain ⟨hei, hri, hpl, hll⟩ := HE.out e wr hmem HGW.out
      have HEI : Hid (EntIs wr base e) := hei
      obtain ⟨c0, c1⟩ := hei.cells
      have hcap := sown_cap hei.pts
      have HBT : Hid (Calls Tryz.prog 37 #[.slice e.pa e.ps.length e.pc, .int .i64 f, .int .i64 t] wr fun r w' => ∃ a' c', r = .returned (.slice a' (e.ps.filter (within f t)).length c') ∧ SRd pntE w' a' (e.ps.filter (within f t)) ∧ (a' = none → c' = 0) ∧ (∀ x, a' = some x → ∃ y, e.pa = some y ∧ y.block = x.block) ∧ wr.grownBy w' none) :=
        l_between e.pa e.ps.length e.pc e.ps f t wr (SOwn.rd hei.pts) rfl hri (by omega) hcap.1 hcap.2
      have hfl : (e.ps.filter (within f t)).length ≤ 8796093022206 := Nat.le_trans (List.length_filter_le _ _) hpl
      obtain ⟨F, eF⟩ : ∃ F, F = e.ps.filter (within f t) := ⟨_, rfl⟩
      rw [← eF] at HBT HNX hfl
      clear he hnext hei hri hcap eF hmem
      go_wp2_with fail
      refine HBT.out.mono ?_
      rintro r w2 ⟨a2, c2, rfl, hr2, hn2, _, hg2⟩
      have HR2 : Hid (SRd pntE w2 a2 F) := hr2
      have HN2 : Hid (a2 = none → c2 = 0) := hn2
      have HG2 : Hid (w.grownBy w2 none) := HGW.out.trans hg2
      have HG12 : Hid (w1.grownBy w2 none) := HG.out.trans hg2
      have c0' := hg2.cell c0 (by simp)
      have HEI2 : Hid (EntIs w2 base e) := HEI.out.kept hg2
      have HSO2 : Hid (SerOut w2 (fun k => w1.heap.size ≤ k) (.slice a9 Q.length c9) Q) := HSO.out.grown hg2
      clear hr2 hn2 hg2 HBT HSO HEI c0 c1
      by_cases hF0 : F.length = 0
      · have HF0 : Hid (F = []) := List.eq_nil_of_length_eq_zero hF0
        rw [hF0]
        generalize Q.length = QL at *
        go_wp2
        go_roundw
        case rel => exact ⟨k + 1, by omega, by go_num, by rw [HNX.out, if_neg (by rw [HF0.out]; simp), List.append_nil]; exact HSO2.out, HG12.out⟩
        case measure => simp [intOf]; omega
      · have q1 : (0 : Int) < ((F.length : Nat) : Int) := by omega
        have HF1 : Hid (F ≠ []) := fun h => hF0 (by rw [h]; rfl)
        have HS := HSAY.out w2 e HG2.out HME.out
        have HCO : Hid (∀ w3, w2.grownBy w3 none → Calls Tryz.prog 39 #[.slice e.la e.ls.length e.lc, .slice a2 F.length c2] w3 fun e' w' => ∃ a1 c1 a2 c2, e' = .returned (.agg #[.slice a1 e.ls.length c1, .slice a2 F.length c2]) ∧ SOwn labE 62 w' w3.heap.size (.slice a1 e.ls.length c1) e.ls.length e.ls ∧ SOwn pntE 51 w' w3.heap.size (.slice a2 F.length c2) F.length F ∧ w3.grownBy w' none) := fun w3 h3 =>
          h_copied e.la e.ls.length e.lc e.ls a2 F.length c2 F w3 ((SOwn.rd HEI2.out.lab).grown h3 (by simp)) rfl (sown_cap HEI2.out.lab).2 (by omega) (HR2.out.grown h3 (by simp)) rfl HN2.out (by omega)
        obtain ⟨FL, eFL⟩ : ∃ FL, FL = F.length := ⟨_, rfl⟩
        have EFL : Hid (FL = F.length) := eFL
        rw [← eFL] at q1 HCO hfl ⊢
        obtain ⟨EL, eEL⟩ : ∃ EL, EL = e.ls.length := ⟨_, rfl⟩
        have EEL : Hid (EL = e.ls.length) := eEL
        rw [← eEL] at HS HCO c0' hll
        obtain ⟨QL, eQL⟩ : ∃ QL, QL = Q.length := ⟨_, rfl⟩
        have EQL : Hid (QL = Q.length) := eQL
        rw [← eQL] at HSO2 hQl ⊢
        clear hF0 eFL eEL eQL
        cases hsy : say e.ls with
        | false =>
          rw [hsy] at HS
          have HSY : Hid (say e.ls = false) := hsy
          clear hsy
          go_wp2_with fail
          refine HS.mono ?_
          rintro r w3 ⟨rfl, hg3⟩
          have HSO3 : Hid (SerOut w3 (fun k => w1.heap.size ≤ k) (.slice a9 QL c9) Q) := HSO2.out.grown hg3
          have HG3 : Hid (w1.grownBy w3 none) := HG12.out.trans hg3
          clear hg3 HS
          go_wp2
          go_roundw
          case rel => exact ⟨k + 1, by omega, by go_num, by rw [HNX.out, if_neg (by rw [HSY.out]; simp), List.append_nil]; exact HSO3.out, HG3.out⟩
          case measure => simp [intOf]; omega
        | true =>
          rw [hsy] at HS
          have HSY : Hid (say e.ls = true) := hsy
          clear hsy
          go_wp2_with fail
          refine HS.mono ?_
          rintro r w3 ⟨rfl, hg3⟩
          have HSO3 : Hid (SerOut w3 (fun k => w1.heap.size ≤ k) (.slice a9 QL c9) Q) := HSO2.out.grown hg3
          have HG3 : Hid (w1.grownBy w3 none) := HG12.out.trans hg3
          have HGW3 : Hid (w.grownBy w3 none) := HG2.out.trans hg3
          have c03 := hg3.cell c0' (by simp)
          have HC3 := HCO.out w3 hg3
          clear hg3 HS HCO c0'
          go_wp2_with fail
          refine HC3.mono ?_
          rintro r w4 ⟨a4, c4, a5, c5, rfl, ho4, ho5, hg4⟩
          have HSO4 : Hid (SerOut w4 (fun k => w1.heap.size ≤ k) (.slice a9 QL c9) Q) := HSO3.out.grown hg4
          have HO4 : Hid (SOwn labE 62 w4 w1.heap.size (.slice a4 EL c4) EL e.ls) := SOwn.base ho4 HG3.out.size
          have HO5 : Hid (SOwn pntE 51 w4 w1.heap.size (.slice a5 FL c5) FL F) := SOwn.base ho5 HG3.out.size
          have HGW4 : Hid (w.grownBy w4 none) := HGW3.out.trans hg4
          have HG4 : Hid (w1.grownBy w4 none) := HG3.out.trans hg4
          have HGA : Hid (w4.grownBy (w4.alloc (.cells #[.slice a4 EL c4, .slice a5 FL c5] 49)) none) := World.grownBy_alloc w4 _ none
          have HSOA : Hid (SerOut (w4.alloc (.cells #[.slice a4 EL c4, .slice a5 FL c5] 49)) (fun k => w1.heap.size ≤ k) (.slice a9 QL c9) Q) := HSO4.out.grown HGA.out
          clear ho4 ho5 hg4 HC3 HSO3 HG3 HGW3 HSO4 c03
          obtain ⟨raw5, hw1, hw2, hw3⟩ := HSOA.out
          have HW1 : Hid (SOwn serE 49 (w4.alloc (.cells #[.slice a4 EL c4, .slice a5 FL c5] 49)) 0 (.slice a9 QL c9) QL raw5) := by have h6 := hw1; rw [← EQL.out] at h6; exact h6
          have HFIN : Hid (∀ v6 w6, SOwn serE 49 w6 0 v6 (QL + 1) (raw5 ++ [((a4, EL, c4), (a5, FL, c5))]) → (w4.alloc (.cells #[.slice a4 EL c4, .slice a5 FL c5] 49)).grownBy w6 (Value.ownBlock (.slice a9 QL c9)) → (v6.ownBlock = Value.ownBlock (.slice a9 QL c9) ∨ v6.ownBlock = some (w4.alloc (.cells #[.slice a4 EL c4, .slice a5 FL c5] 49)).heap.size) → SerOut w6 (fun k => w1.heap.size ≤ k) v6 (Q ++ [(e.ls, F)]) ∧ w1.grownBy w6 none) := by
            intro v6 w6 k1 k2 k3
            have hsz : w1.heap.size ≤ (w4.alloc (.cells #[.slice a4 EL c4, .slice a5 FL c5] 49)).heap.size := Nat.le_trans HG4.out.size HGA.out.size
            refine ⟨?_, gb_trans (HG4.out.trans HGA.out) k2 (fun j hj => ?_)⟩
            · rw [EQL.out] at k1
              refine out_append (s := (e.ls, F)) hw3 hw1 hw2 (by rw [EEL.out, EFL.out] at k1; exact k1) k2 k3 ?_ ?_ (fun k h => h) (fun x hx => ?_) (fun x hx => ?_) (fun _ => hsz)
              · show SOwn labE 62 _ 0 (.slice a4 e.ls.length c4) e.ls.length e.ls
                rw [← EEL.out]
                exact SOwn.base (SOwn.kept HO4.out HGA.out (by cases a4 <;> simp [Value.ownBlock])) (Nat.zero_le _)
              · show SOwn pntE 51 _ 0 (.slice a5 F.length c5) F.length F
                rw [← EFL.out]
                exact SOwn.base (SOwn.kept HO5.out HGA.out (by cases a5 <;> simp [Value.ownBlock])) (Nat.zero_le _)
              · exact (SOwn.block HO4.out x.block (by rw [hx]; rfl)).1
              · exact (SOwn.block HO5.out x.block (by rw [hx]; rfl)).1
            · exact .inl (hw2 j hj)
          have HSR : Hid (SRd serE (w4.alloc (.cells #[.slice a4 EL c4, .slice a5 FL c5] 49)) (some ⟨w4.heap.size, 0, none⟩) [((a4, EL, c4), (a5, FL, c5))]) := srd_lit serE 49 w4 [((a4, EL, c4), (a5, FL, c5))]
          clear hw1 hw2 hw3 HSOA HO4 HO5
          go_wp2_with (at_builtin; refine wpList_append_at serT rfl (.tmp 41) (.tmp 48) rfl 0 (.slice a9 QL c9) QL raw5 rfl HW1.out ⟨w4.heap.size, 0, none⟩ [((a4, EL, c4), (a5, FL, c5))] 1 1 rfl rfl HSR.out (by omega) (by unfold maxLen; omega) (Nat.zero_le _) ?_; intro v6 w6 ho6 hg6 hn6 hw6)
          obtain ⟨hs6, hg16⟩ := HFIN.out v6 w6 ho6 hg6 hw6
          have HS6 : Hid (SerOut w6 (fun k => w1.heap.size ≤ k) v6 (Q ++ [(e.ls, F)])) := hs6
          have HG6 : Hid (w1.grownBy w6 none) := hg16
          clear ho6 hg6 hn6 hw6 hs6 hg16
          go_wp2
          go_roundw
          case rel => exact ⟨k + 1, by omega, by go_num, by rw [HNX.out, if_pos ⟨HSY.out, HF1.out⟩]; exact HS6.out, HG6.out⟩
          case measure => simp [intOf]; omega
    · obtain rfl : k = M := by omega
      have hi : ¬ (k : Int) < (k : Int) := by omega
      have HQS : Hid (Q = selS say f t S) := by
        show _ = _
        rw [EQ.out, ← HSEL.out, HM.out, List.take_length]
      generalize Q.length = QL at HSO ⊢
      go_wp2
      go_ret
      refine ⟨_, rfl, ?_, HGW.out⟩
      rw [← HQS.out]
      exact HSO.out.stay (fun k _ _ => rfl) (fun k hk => Nat.le_trans HG1.out.size hk)
end Go.Proofs.YtpabbmiibehfjaaGreatDoor

/- Package head: what dropEmpty touches. -/
namespace Go.Proofs.YtpabbmiibehfjaaGreatDoor
open Go.RowKit Go.Maps
set_option linter.unusedVariables false
set_option maxRecDepth 20000

/-- A set of labels in block tb. -/
def TS (w : World) (tb n : Nat) (T : Lab → Prop) : Prop :=
  ∃ D : DataW Unit, w.ownsMap Tryz.prog 62 (unitElem (H := Unit)) tb n D ∧ (∀ l, okK l → (Maps.has D (kL l) = true ↔ T l)) ∧ ∀ kl, Maps.has D kl = true → ∃ l, okK l ∧ kl = kL l
theorem TS.made (w : World) : TS (w.alloc (.map #[] 0)) w.heap.size 0 (fun _ => False) :=
  ⟨.map [], World.ownsMap_made w _ _ _, fun l _ => by simp [Maps.has], fun kl h => by simp [Maps.has] at h⟩
theorem TS.kept {w w' : World} {row : Option Nat} {tb n : Nat} {T : Lab → Prop} (h : TS w tb n T) (hg : w.grownBy w' row) (hne : some tb ≠ row) : TS w' tb n T := by
  obtain ⟨D, h1, h2⟩ := h
  exact ⟨D, h1.kept hg hne, h2⟩
theorem TS.stay {w w' : World} {tb n : Nat} {T : Lab → Prop} (h : TS w tb n T) (hs : w'.heap[tb]? = w.heap[tb]?) : TS w' tb n T := by
  obtain ⟨D, ⟨es, c, h1, h3⟩, h2⟩ := h
  exact ⟨D, ⟨es, c, hs.trans h1, h3⟩, h2⟩
theorem TS.lt {w : World} {tb n : Nat} {T : Lab → Prop} (h : TS w tb n T) : tb < w.heap.size := by
  obtain ⟨D, h1, _⟩ := h
  exact h1.lt
theorem TS.isMap {w : World} {tb n : Nat} {T : Lab → Prop} (h : TS w tb n T) : IsMap w tb := by
  obtain ⟨D, ⟨es, c, h1, _⟩, _⟩ := h
  exact ⟨es, c, h1⟩
theorem TS.congr {w : World} {tb n : Nat} {T T' : Lab → Prop} (h : TS w tb n T) (hT : ∀ l, okK l → (T l ↔ T' l)) : TS w tb n T' := by
  obtain ⟨D, h1, h2, h3⟩ := h
  exact ⟨D, h1, fun l hl => (h2 l hl).trans (hT l hl), h3⟩
theorem TS.mono {w : World} {tb n m : Nat} {T : Lab → Prop} (h : TS w tb n T) (hm : n ≤ m) : TS w tb m T := by
  obtain ⟨D, h1, h2⟩ := h
  exact ⟨D, h1.mono hm, h2⟩
theorem TS.put {w : World} {tb n : Nat} {T : Lab → Prop} (h : TS w tb n T) (l : Lab) (hl : okK l) (hn : n < maxLen) :
    ∃ w', (Instr.mapUpdate 105 (.map (some tb)) (.agg #[.string l.1, .string l.2]) (.agg #[])).run Tryz.prog w = .ok () w' ∧ TS w' tb (n + 1) (fun x => x = l ∨ T x) ∧ w.grownBy w' (some tb) := by
  obtain ⟨D, h1, h2, h3⟩ := h
  obtain ⟨w', hrun, hm', hg⟩ := h1.update law62 Tryz.underlying105 hn (keyL l hl) (unitElem_mk (H := Unit))
  refine ⟨w', hrun, ⟨_, hm', fun x hx => ?_, fun kl hk => ?_⟩, hg⟩
  · by_cases e : x = l
    · subst e
      rw [has_put_same h1.isMap (law62.key (keyL x hx))]
      simp
    · rw [has_put_other (fun e' => e (kL_inj hx hl e')), h2 x hx]
      simp [e]
  · by_cases e : kl = kL l
    · exact ⟨l, hl, e⟩
    · rw [has_put_other e] at hk
      exact h3 kl hk
/-! Series that are dropped from the map. -/
theorem ser_del {A C : List Ent} {e : Ent} (hok : ∀ f ∈ A ++ e :: C, checkR f.ls = 0) (hs : Sets ((A ++ e :: C).map (·.ls))) : setK (serF (A ++ e :: C)) (keyS e.ls) none = serF (A ++ C) := by
  funext s
  have hnd := sets_nodup hs
  rw [List.map_append, List.map_cons, List.nodup_append, List.nodup_cons] at hnd
  obtain ⟨_, ⟨h2, _⟩, h3⟩ := hnd
  have he : checkR e.ls = 0 := hok e (by simp)
  unfold setK
  by_cases hk : s = keyS e.ls
  · rw [if_pos hk]
    subst hk
    unfold serF
    rw [eq_comm, Option.map_eq_none_iff, List.find?_eq_none]
    intro f hf hq
    simp only [decide_eq_true_eq] at hq
    have hf' : f ∈ A ++ e :: C := by simp only [List.mem_append, List.mem_cons] at hf ⊢; rcases hf with h | h <;> simp [h]
    have hfe := keyS_inj (hok f hf') he hq
    rcases List.mem_append.1 hf with h | h
    · exact h3 f.ls (List.mem_map.2 ⟨f, h, rfl⟩) e.ls (by simp) hfe
    · exact h2 (List.mem_map.2 ⟨f, h, hfe⟩)
  · rw [if_neg hk]
    unfold serF
    rw [List.find?_append, List.find?_append, List.find?_cons_of_neg (by simpa using fun h => hk h.symm)]
/-- The series that are left when the first k are looked at. -/
def leftK (es : List Ent) (k : Nat) : List Ent := (es.take k).filter (fun e => !isE e) ++ es.drop k
theorem leftK_zero (es : List Ent) : leftK es 0 = es := by simp [leftK]
theorem leftK_end (es : List Ent) : leftK es es.length = es.filter fun e => !isE e := by simp [leftK]
theorem leftK_keep {es : List Ent} {k : Nat} {e : Ent} (he : es[k]? = some e) (hq : isE e = false) : leftK es (k + 1) = leftK es k := by
  unfold leftK
  have hk := (List.getElem?_eq_some_iff.1 he)
  rw [List.take_add_one, he, List.filter_append, List.drop_eq_getElem_cons hk.1, hk.2]
  simp [hq]
theorem leftK_form {es : List Ent} {k : Nat} {e : Ent} (he : es[k]? = some e) : leftK es k = (es.take k).filter (fun e => !isE e) ++ e :: es.drop (k + 1) := by
  unfold leftK
  have hk := (List.getElem?_eq_some_iff.1 he)
  rw [List.drop_eq_getElem_cons hk.1, hk.2]
theorem leftK_drop {es : List Ent} {k : Nat} {e : Ent} (he : es[k]? = some e) (hq : isE e = true) : leftK es (k + 1) = (es.take k).filter (fun e => !isE e) ++ es.drop (k + 1) := by
  unfold leftK
  rw [List.take_add_one, he, List.filter_append]
  simp [hq]
theorem leftK_sub (es : List Ent) (k : Nat) : (leftK es k).Sublist es := by
  unfold leftK
  conv => rhs; rw [← List.take_append_drop k es]
  exact List.Sublist.append List.filter_sublist (List.Sublist.refl _)
/-- Which labels are touched when the first k series are looked at. -/
def touchK (es : List Ent) (k : Nat) (l : Lab) : Prop := ∃ e ∈ es.take k, isE e = true ∧ posts l e = true
theorem touchK_next {es : List Ent} {k : Nat} {e : Ent} (he : es[k]? = some e) (l : Lab) : touchK es (k + 1) l ↔ (isE e = true ∧ posts l e = true) ∨ touchK es k l := by
  unfold touchK
  rw [List.take_add_one, he]
  simp only [List.mem_append, Option.mem_toList, Option.some.injEq]
  constructor
  · rintro ⟨f, hf | rfl, h1, h2⟩
    · exact .inr ⟨f, hf, h1, h2⟩
    · exact .inl ⟨h1, h2⟩
  · rintro (⟨h1, h2⟩ | ⟨f, hf, h1, h2⟩)
    · exact ⟨e, .inr rfl, h1, h2⟩
    · exact ⟨f, .inl hf, h1, h2⟩
/-- Postings while they are thinned: those of labels that are touched and no more left. -/
def thinD (es : List Ent) (left : Lab → Bool) (l : Lab) : List Nat := if left l = true then postD es l else postD (es.filter fun e => !isE e) l
theorem thin_same {es : List Ent} {l : Lab} (h : ¬ touchK es es.length l) : postD (es.filter fun e => !isE e) l = postD es l := by
  unfold postD
  rw [List.filter_filter]
  congr 1
  apply List.filter_congr
  intro e he
  cases hp : posts l e with
  | false => rfl
  | true =>
    cases hq : isE e with
    | false => rfl
    | true => exact absurd ⟨e, by rw [List.take_length]; exact he, hq, hp⟩ h
theorem thin_filter (es : List Ent) (l : Lab) : postD (es.filter fun e => !isE e) l = ((es.filter (posts l)).filter fun e => !isE e).map (·.p) := by
  unfold postD
  rw [List.filter_filter, List.filter_filter]
  congr 1
  apply List.filter_congr
  intro e _
  exact Bool.and_comm _ _
/-- The head without its empty series. -/
theorem HeadIs.drop {w0 w : World} {base hb m1 m2 lim n n' : Nat} {es : List Ent} {B B' : Nat → Prop} (h0 : HeadIs w0 base hb m1 m2 lim n es B) (hrow : HRow w hb m1 m2 lim) (hser : MapG serM w m1 n' (serF (es.filter fun e => !isE e))) (hpost : PostIs w base m2 n' (postD (es.filter fun e => !isE e)) B') (hent : ∀ e ∈ es, EntIs w base e) (hB : ∀ k, B k → B' k) (hlt : ∀ k, B' k → B k ∨ k < w.heap.size) (hold : ∀ k, k < w0.heap.size → B' k → B k) (hsz : w0.heap.size ≤ w.heap.size) :
    HeadIs w base hb m1 m2 lim n' (es.filter fun e => !isE e) B' := by
  have hbs := h0.base
  refine ⟨hrow, hser, hpost, fun e he => hent e (List.mem_filter.1 he).1, fun e he => h0.ok e (List.mem_filter.1 he).1, sets_filter h0.sets _, h0.apart.filter _, h0.maps, ⟨hB _ h0.own.1, hB _ h0.own.2.1, fun e he => ⟨hB _ (h0.own.2.2 e (List.mem_filter.1 he).1).1, fun x hx => hB _ ((h0.own.2.2 e (List.mem_filter.1 he).1).2 x hx)⟩⟩, fun k hk => ?_, Nat.le_trans hbs hsz, fun e he x hx => hB _ (h0.lab e (List.mem_filter.1 he).1 x hx)⟩
  by_cases hk0 : k < w0.heap.size
  · have := h0.lt k (hold k hk0 hk)
    omega
  · refine ⟨by omega, ?_⟩
    rcases hlt k hk with h1 | h1
    · have := (h0.lt k h1).2; omega
    · exact h1
end Go.Proofs.YtpabbmiibehfjaaGreatDoor

