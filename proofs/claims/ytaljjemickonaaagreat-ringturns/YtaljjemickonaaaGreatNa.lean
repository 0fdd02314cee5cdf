/- Several texts in one: Tc, Td. -/
import Derived.Test.YtaljjemickonaaaGreatMr
import Derived.Test.YtaljjemickonaaaGreatMu
/- Rings: what one member more does to the replicas, as maths. -/
namespace Go.Proofs.YtaljjemickonaaaGreat
open Go.RowKit Go.Sort
set_option linter.unusedVariables false
set_option maxRecDepth 20000

theorem pwR_ext {α : Type} {r : α → α → Prop} (asym : ∀ x y, r x y → ¬ r y x) : ∀ l m : List α, l.Pairwise r → m.Pairwise r → (∀ x, x ∈ l ↔ x ∈ m) → l = m
  | [], [], _, _, _ => rfl
  | [], y :: m, _, _, h => by have := (h y).2 (List.mem_cons_self ..); simp at this
  | x :: l, [], _, _, h => by have := (h x).1 (List.mem_cons_self ..); simp at this
  | x :: l, y :: m, hl, hm, h => by
    rw [List.pairwise_cons] at hl hm
    have hxy : x = y := by
      have h1 := (h x).1 (List.mem_cons_self ..)
      have h2 := (h y).2 (List.mem_cons_self ..)
      rcases List.mem_cons.1 h1 with e | h1
      · exact e
      · rcases List.mem_cons.1 h2 with e | h2
        · exact e.symm
        · exact absurd (hm.1 x h1) (asym _ _ (hl.1 y h2))
    subst hxy
    have ht : l = m := pwR_ext asym l m hl.2 hm.2 (fun z => by
      constructor
      · intro hz
        rcases List.mem_cons.1 ((h z).1 (List.mem_cons_of_mem _ hz)) with rfl | h1
        · exact absurd (hl.1 z hz) (asym _ _ (hl.1 z hz))
        · exact h1
      · intro hz
        rcases List.mem_cons.1 ((h z).2 (List.mem_cons_of_mem _ hz)) with rfl | h1
        · exact absurd (hm.1 z hz) (asym _ _ (hm.1 z hz))
        · exact h1)
    rw [ht]
def lexP (p q : Pl) : Prop := p.1 < q.1 ∨ p.1 = q.1 ∧ p.2 < q.2
theorem lexP_asym (p q : Pl) (h : lexP p q) : ¬ lexP q p := by unfold lexP at *; omega
theorem memOk_rise {ms : List Mem} (ho : ringOk ms = true) {m : Mem} (hm : m ∈ ms) : m.2.2.Pairwise (· < ·) := by
  obtain ⟨i, hi⟩ := List.getElem?_of_mem hm
  have := ((ringOk_iff ms).1 ho).1 i m hi
  unfold memOk at this
  simp only [Bool.and_eq_true] at this
  exact (riseW_pw _).1 this.2
/-- Places of a ring are unlike each other. -/
theorem plc_nodup {ms : List Mem} (ho : ringOk ms = true) : (plc ms).Nodup := by
  unfold plc List.Nodup
  rw [List.pairwise_flatMap]
  constructor
  · intro m hm
    unfold plcM
    split
    · have hr := (memOk_rise ho hm)
      rw [List.pairwise_map]
      exact hr.imp (fun {a b} h e => by simp at e; omega)
    · exact List.Pairwise.nil
  · have hr : (ms.map (·.1)).Pairwise (· < ·) := ringOk_rise ho
    rw [List.pairwise_map] at hr
    refine hr.imp (fun {a b} h x hx y hy e => ?_)
    subst e
    unfold plcM at hx hy
    split at hx
    · split at hy
      · obtain ⟨t, _, rfl⟩ := List.mem_map.1 hx
        obtain ⟨t', _, e⟩ := List.mem_map.1 hy
        simp at e; omega
      · simp at hy
    · simp at hx
theorem sortP_strict {ms : List Mem} (ho : ringOk ms = true) : (sortP (plc ms)).Pairwise lexP := by
  have hs := sortP_sorted (plc ms)
  have hn : (sortP (plc ms)).Pairwise (· ≠ ·) := (sortP_perm (plc ms)).nodup_iff.2 (plc_nodup ho)
  unfold SortedP at hs
  refine (hs.and hn).imp (fun {p q} h => ?_)
  have h1 := (ltP_false q p).1 h.1
  have h2 := h.2
  unfold lexP
  rcases p with ⟨a, b⟩
  rcases q with ⟨c, d⟩
  simp only [ne_eq, Prod.mk.injEq] at h2 h1 ⊢
  omega
theorem part_take {α : Type} (r : α → α → Prop) (p : α → Bool) (hm : ∀ x y, r x y → p y = true → p x = true) : ∀ l : List α, l.Pairwise r → l.take (l.countP p) = l.filter p ∧ l.drop (l.countP p) = l.filter (fun x => !p x)
  | [], _ => by simp
  | x :: l, h => by
    rw [List.pairwise_cons] at h
    obtain ⟨h1, h2⟩ := part_take r p hm l h.2
    cases hx : p x with
    | true => simp [hx, h1, h2]
    | false =>
      have h0 : ∀ y ∈ l, p y = false := fun y hy => by
        cases e : p y with
        | false => rfl
        | true => rw [hm x y (h.1 y hy) e] at hx; cases hx
      have hc : l.countP p = 0 := by rw [List.countP_eq_zero]; intro y hy; simp [h0 y hy]
      have hf : l.filter p = [] := by rw [List.filter_eq_nil_iff]; intro y hy; simp [h0 y hy]
      have hg : l.filter (fun x => !p x) = l := by rw [List.filter_eq_self]; intro y hy; simp [h0 y hy]
      simp [hx, hc, hf, hg]
def bel (h : Int) (p : Pl) : Bool := decide (cmpP p (h, 0) < 0)
theorem rot_eq {ms : List Mem} (ho : ringOk ms = true) (h : Int) : rotP ms h = (sortP (plc ms)).filter (fun p => !bel h p) ++ (sortP (plc ms)).filter (bel h) := by
  obtain ⟨h1, h2⟩ := part_take lexP (bel h) (fun x y hr hy => by
    unfold bel at *
    simp only [decide_eq_true_eq, cmpP_neg] at *
    unfold lexP at hr
    omega) (sortP (plc ms)) (sortP_strict ho)
  unfold rotP
  show _ ++ _ = _
  rw [← h1, ← h2]
  rfl
theorem metF_filter (q : Int → Bool) : ∀ (l acc : List Int), (l.filter q).foldl metS (acc.filter q) = (l.foldl metS acc).filter q
  | [], acc => rfl
  | x :: l, acc => by
    rw [List.foldl_cons, ← metF_filter q l (metS acc x)]
    cases hx : q x with
    | true =>
      rw [List.filter_cons_of_pos hx, List.foldl_cons]
      congr 1
      unfold metS
      have hc : (acc.filter q).contains x = acc.contains x := by
        rw [Bool.eq_iff_iff]
        simp [List.mem_filter, hx]
      rw [hc]
      split
      · rfl
      · rw [List.filter_append, List.filter_cons_of_pos hx]; rfl
    | false =>
      rw [List.filter_cons_of_neg (by simp [hx])]
      congr 1
      unfold metS
      split
      · rfl
      · rw [List.filter_append, List.filter_cons_of_neg (by simp [hx])]; simp
theorem plc_with (ms : List Mem) (id s : Int) : plc (withM ms id s) = plc (ms.take (posI ms id)) ++ plcM (id, s, tokL id) ++ plc (ms.drop (posI ms id)) := by
  unfold plc withM
  simp [List.flatMap_append]
theorem plc_parts (ms : List Mem) (id : Int) : plc ms = plc (ms.take (posI ms id)) ++ plc (ms.drop (posI ms id)) := by
  conv => lhs; rw [← List.take_append_drop (posI ms id) ms]
  unfold plc
  rw [List.flatMap_append]
theorem repM_idle (ms : List Mem) (id s h : Int) (hs : s ≠ 2) : repM (withM ms id s) h = repM ms h := by
  have e : plc (withM ms id s) = plc ms := by
    rw [plc_with, plc_parts ms id]
    unfold plcM
    rw [if_neg hs, List.append_nil]
  unfold repM rotP
  rw [e]
theorem plc_ids {ms : List Mem} {p : Pl} (h : p ∈ plc ms) : ∃ m ∈ ms, m.1 = p.2 := by
  unfold plc at h
  obtain ⟨m, hm, hp⟩ := List.mem_flatMap.1 h
  unfold plcM at hp
  split at hp
  · obtain ⟨t, _, rfl⟩ := List.mem_map.1 hp
    exact ⟨m, hm, rfl⟩
  · simp at hp
theorem id_out {ms : List Mem} {id : Int} (ho : ringOk ms = true) (hh : hasI ms id = false) : ∀ m ∈ ms, m.1 ≠ id := by
  intro m hm e
  subst e
  obtain ⟨i, hi⟩ := List.getElem?_of_mem hm
  have hr := ringOk_rise ho
  have hp : posI ms m.1 = i := by
    unfold posI
    refine countP_place _ ms i (by have := (List.getElem?_eq_some_iff.1 hi).1; omega) (fun j a ha => ?_)
    simp only [decide_eq_true_eq]
    rcases Nat.lt_trichotomy j i with h | h | h
    · have := hr.lt h ha hi; omega
    · subst h; rw [hi] at ha; cases ha; omega
    · have := hr.lt h hi ha; omega
  unfold hasI at hh
  rw [hp, hi] at hh
  simp at hh
theorem repM_more {ms : List Mem} {id : Int} (ho : ringOk ms = true) (hi : idOk id = true) (hh : hasI ms id = false) (h : Int) : (repM (withM ms id 2) h).filter (fun x => decide (x ≠ id)) = repM ms h := by
  have l2 := life ms id 2 ho hi hh rfl
  have hno := id_out ho hh
  have hf : (sortP (plc (withM ms id 2))).filter (fun p => decide (p.2 ≠ id)) = sortP (plc ms) := by
    refine pwR_ext lexP_asym _ _ ((sortP_strict l2.ok).filter _) (sortP_strict ho) (fun p => ?_)
    rw [List.mem_filter, (sortP_perm _).mem_iff, (sortP_perm _).mem_iff, plc_with, plc_parts ms id]
    simp only [List.mem_append, decide_eq_true_eq]
    constructor
    · rintro ⟨(h1 | h1) | h1, h2⟩
      · exact .inl h1
      · unfold plcM at h1
        rw [if_pos rfl] at h1
        obtain ⟨t, _, rfl⟩ := List.mem_map.1 h1
        exact absurd rfl h2
      · exact .inr h1
    · rintro (h1 | h1)
      · obtain ⟨m, hm, e⟩ := plc_ids h1
        exact ⟨.inl (.inl h1), by rw [← e]; exact hno m (List.mem_of_mem_take hm)⟩
      · obtain ⟨m, hm, e⟩ := plc_ids h1
        exact ⟨.inr h1, by rw [← e]; exact hno m (List.mem_of_mem_drop hm)⟩
  have hr : (rotP (withM ms id 2) h).filter (fun p => decide (p.2 ≠ id)) = rotP ms h := by
    rw [rot_eq l2.ok, rot_eq ho, List.filter_append, ← hf]
    rw [List.filter_filter, List.filter_filter, List.filter_filter, List.filter_filter]
    congr 1 <;> (apply List.filter_congr; intro p _; rw [Bool.and_comm])
  unfold repM metL
  have := metF_filter (fun x => decide (x ≠ id)) (idsP (rotP (withM ms id 2) h)) []
  rw [← this]
  rw [← hr]
  unfold idsP
  rw [List.filter_map]
  rfl
theorem less_one {l : List Int} (hn : l.Nodup) (id : Int) : l.length ≤ (l.filter (fun x => decide (x ≠ id))).length + 1 := by
  induction l with
  | nil => simp
  | cons x l ih =>
    rw [List.nodup_cons] at hn
    by_cases hx : x = id
    · subst hx
      have : l.filter (fun y => decide (y ≠ x)) = l := by
        rw [List.filter_eq_self]
        intro y hy
        simp only [decide_eq_true_eq]
        rintro rfl
        exact hn.1 hy
      rw [List.filter_cons_of_neg (by simp), this]
      simp
    · have := ih hn.2
      rw [List.filter_cons_of_pos (by simpa using hx)]
      simp only [List.length_cons]
      omega
/-- The others among the first k. -/
theorem turn_others {ms : List Mem} {id : Int} (ho : ringOk ms = true) (hi : idOk id = true) (hh : hasI ms id = false) (h : Int) (k : Nat) (hk : k ≤ (repM ms h).length) :
    k ≤ (repM (withM ms id 2) h).length ∧ k ≤ (((repM (withM ms id 2) h).take k).filter (fun x => decide (x ≠ id))).length + 1 ∧ (((repM (withM ms id 2) h).take k).filter (fun x => decide (x ≠ id))).length ≤ k ∧ (((repM (withM ms id 2) h).take k).filter (fun x => decide (x ≠ id))) = (repM ms h).take (((repM (withM ms id 2) h).take k).filter (fun x => decide (x ≠ id))).length := by
  have hm := repM_more ho hi hh h
  have hl : k ≤ (repM (withM ms id 2) h).length := by
    have := List.length_filter_le (fun x => decide (x ≠ id)) (repM (withM ms id 2) h)
    rw [hm] at this; omega
  have ht : ((repM (withM ms id 2) h).take k).length = k := by rw [List.length_take]; omega
  have hnd : ((repM (withM ms id 2) h).take k).Nodup := (repM_nodup _ _).sublist (List.take_sublist _ _)
  have h1 := less_one hnd id
  rw [ht] at h1
  have h2 := List.length_filter_le (fun x => decide (x ≠ id)) ((repM (withM ms id 2) h).take k)
  rw [ht] at h2
  refine ⟨hl, h1, h2, ?_⟩
  have hp : ((repM (withM ms id 2) h).take k).filter (fun x => decide (x ≠ id)) <+: repM ms h := by
    rw [← hm]
    exact (List.take_prefix _ _).filter _
  exact (List.prefix_iff_eq_take.1 hp)
end Go.Proofs.YtaljjemickonaaaGreat

/- Rings: RingTurns, walked. -/
namespace Go.Proofs.YtaljjemickonaaaGreat
open Go.RowKit
set_option linter.unusedVariables false
set_option maxRecDepth 20000

theorem srd_takeI {w : World} {a : Option Addr} {l : List Int} (h : SRd intE w a l) (j : Nat) : SRd intE w a (l.take j) := by
  rcases h with rfl | ⟨b, off, e2, hc⟩
  · left; simp
  · refine .inr ⟨b, off, e2, fun p q hp => hc p q ?_⟩
    have e3 : intE.flat l = intE.flat (l.take j) ++ intE.flat (l.drop j) := by
      conv => lhs; rw [← List.take_append_drop j l]
      simp only [Elem.flat, List.flatMap_append]
    rw [e3, List.getElem?_append_left (List.getElem?_eq_some_iff.1 hp).1]; exact hp
/-- Replicas, where there are enough. -/
def RqOut (R : List Int) (K : Nat) (w : World) (e : Ending) (w' : World) : Prop := ∃ g' c', e = .returned (.tuple #[.slice (some ⟨g', 0, none⟩) K c', .int .i64 0]) ∧ SRd intE w' (some ⟨g', 0, none⟩) (R.take K) ∧ K ≤ c' ∧ w.grownBy w' none
theorem rq_of {ms : List Mem} {h : Int} {K : Nat} {w w' : World} {e : Ending} (hk : 1 ≤ K ∧ K ≤ 5) (ho : ringOk ms = true) (hl : K ≤ (repM ms h).length) (hx : RpOut ms h (K : Int) w e w') : RqOut (repM ms h) K w e w' := by
  have hc : repC ms h K = 0 := by unfold repC; rw [if_pos ⟨ho, by omega, by omega⟩, if_pos (by omega)]
  have hL : repL ms h K = (repM ms h).take K := by unfold repL; rw [if_pos hc]; simp
  obtain ⟨a', c', rfl, h1, h2⟩ := hx
  have e1 : ((repM ms h).take K).length = K := by rw [List.length_take]; omega
  rw [hL, e1] at h1
  obtain ⟨g, cap, hxe, h3⟩ := sown_some h1 (by intro e; cases e; omega)
  simp only [Value.slice.injEq, true_and] at hxe
  obtain ⟨rfl, rfl⟩ := hxe
  exact ⟨g, c', by rw [hc, hL, e1], SOwn.rd h3, (sown_cap h3).1, h2⟩
/-- Replicas, whatever they are. -/
def RnOut (q : Int) (w : World) (e : Ending) (w' : World) : Prop := ∃ a' n' c', e = .returned (.tuple #[.slice a' n' c', .int .i64 q]) ∧ w.grownBy w' none
set_option maxHeartbeats 16000000 in
theorem turns_walk (E : Int) (a : Option Addr) (n c : Nat) (raw : List MRow) (ms : List Mem) (id h rf : Int) (w : World) (hr : MsRd w a ms raw) (hnil : a = none → c = 0) (hE : 0 ≤ E ∧ E ≤ 18446744073709551615) (hn : ms.length = n) (hz : n ≤ 3518437208800) (hz2 : ∀ s ∈ ms, s.2.2.length ≤ 35184372088832) :
    Calls Tryz.prog 7 #[.agg #[.int .u64 E, .slice a n c], .int .i64 id, .int .u32 h, .int .i64 rf] w fun e w' => e = .returned (.bool true) ∧ w.grownBy w' none := by
  have AW : Hid (∀ u, Calls Tryz.prog 24 #[] u fun e w' => e = .returned (.bool true) ∧ u.grownBy w' none) := r_awake
  have CP0 : Hid (∀ E u a c raw, MsRd u a ms raw → Calls Tryz.prog 9 #[.agg #[.int .u64 E, .slice a n c]] u fun e w' => CpOut E ms n u e w') := fun E u a c raw h => cp_any h hn hz hz2
  have RP0 : Hid (∀ u a c raw (rf : Int), MsRd u a ms raw → Calls Tryz.prog 26 #[.agg #[.int .u64 E, .slice a n c], .int .u32 h, .int .i64 rf] u fun e w' => RpOut ms h rf u e w') := fun u a c raw rf hx => f_replicas E ms raw h rf a n c u hx hn hz hz2
  have JO : Hid (∀ u a c raw, MsRd u a ms raw → (a = none → c = 0) → Calls Tryz.prog 10 #[.agg #[.int .u64 E, .slice a n c], .int .i64 id] u fun e w' => RgOut 0 E ms id u e w') := fun u a c raw h h1 => f_chg0 E ms raw id a n c u h hn h1 hE hz hz2
  have HBr : Hid (RgBox (w.alloc (.cells #[.int .u64 E, .slice a n c] 25)) w.heap.size E a n c ms raw) := RgBox.made hr hnil hn
  have HG : Hid (w.grownBy (w.alloc (.cells #[.int .u64 E, .slice a n c] 25)) none) := World.grownBy_alloc _ _ none
  have HN : Hid (ms.length = n) := hn
  have HE : Hid (0 ≤ E ∧ E ≤ 18446744073709551615) := hE
  have LOW := Low_any rf (w.alloc (.cells #[.int .u64 E, .slice a n c] 25))
  clear hr hnil hn hz hz2 hE
  obtain ⟨B, eB⟩ : ∃ B, w.heap.size = B := ⟨_, rfl⟩
  have EB : Hid (w.heap.size = B) := eB
  rw [eB] at HBr
  clear eB
  go_enter Tryz.func7, Tryz.ntmps7
  go_wp2_with fail
  try rw [EB.out]
  generalize w.alloc (.cells #[.int .u64 E, .slice a n c] 25) = W at *
  refine LOW.mono ?_
  clear LOW
  rintro e u0 ⟨r, rfl, h0, h1, e0⟩
  subst e0
  obtain ⟨j, hj, hj5⟩ : ∃ j : Nat, r.tmod 5 = (j : Int) ∧ j < 5 := by
    have h2 := Int.tmod_nonneg 5 h0
    have h3 := Int.tmod_lt_of_pos r (by decide : (0 : Int) < 5)
    exact ⟨(r.tmod 5).toNat, by omega, by omega⟩
  obtain ⟨K, hK⟩ : ∃ K : Nat, K = j + 1 := ⟨_, rfl⟩
  have hw1 : IntKind.i64.wrap (1 + (j : Int)) = (K : Int) := by rw [IntKind.wrap_i64]; omega
  have hw0 : IntKind.i64.wrap (j : Int) = (j : Int) := by rw [IntKind.wrap_i64]; omega
  have HK : Hid (1 ≤ K ∧ K ≤ 5) := by show _ ∧ _; omega
  clear h0 h1 hK hj5
  have C0 := CP0.out E _ a c _ HBr.out.rd
  obtain ⟨x0, x1⟩ := HBr.out.cells
  go_wp2_with fail
  clear x0 x1
  refine C0.mono ?_
  clear C0 hj hw1 hw0
  rintro e u1 ⟨a1, c1, raw1, rfl, m9, nl9, g9⟩
  have C1 := RP0.out _ a1 c1 _ (K : Int) m9
  replace HBr : Hid (RgBox u1 B E a n c ms raw) := HBr.out.grown g9
  replace HG : Hid (w.grownBy u1 none) := HG.out.trans g9
  clear m9 nl9 g9
  by_cases hyes : repC ms h K = 0 ∧ chgE 0 E ms id = 0 ∧ ¬ 4611686018427387904 < E
  · obtain ⟨hc, hq, hb⟩ := hyes
    obtain ⟨ho, hE9, hid, hh⟩ := chg0_of hq
    have hE := HE.out
    have hn := HN.out
    have hK := HK.out
    have hle : K ≤ (repM ms h).length := by
      unfold repC at hc
      rw [if_pos ⟨ho, by omega, by omega⟩] at hc
      split at hc
      · omega
      · cases hc
    have l1 := life ms id 1 ho hid hh rfl
    have l2 := life ms id 2 ho hid hh rfl
    have l3 := life ms id 3 ho hid hh rfl
    have k1 := life_chg l1 (E + 1) (by omega) hid
    have k2 := life_chg l2 (E + 2) (by omega) hid
    have L1 : Hid ((withM ms id 1).length = n + 1) := by show _ = _; rw [l1.len, hn]
    have L2 : Hid ((withM ms id 2).length = n + 1) := by show _ = _; rw [l2.len, hn]
    have L3 : Hid ((withM ms id 3).length = n + 1) := by show _ = _; rw [l3.len, hn]
    have CP1 : Hid (∀ E u a c raw, MsRd u a (withM ms id 1) raw → Calls Tryz.prog 9 #[.agg #[.int .u64 E, .slice a (n + 1 : Nat) c]] u fun e w' => CpOut E (withM ms id 1) (n + 1) u e w') := fun E u a c raw h => cp_ok h L1.out l1.ok
    have CP2 : Hid (∀ E u a c raw, MsRd u a (withM ms id 2) raw → Calls Tryz.prog 9 #[.agg #[.int .u64 E, .slice a (n + 1 : Nat) c]] u fun e w' => CpOut E (withM ms id 2) (n + 1) u e w') := fun E u a c raw h => cp_ok h L2.out l2.ok
    have J0 : Hid (∀ u a c raw, MsRd u a ms raw → (a = none → c = 0) → Calls Tryz.prog 10 #[.agg #[.int .u64 E, .slice a n c], .int .i64 id] u fun e w' => YesOut (E + 1) (withM ms id 1) (n + 1) u e w') := fun u a c raw h h1 => (JO.out u a c raw h h1).mono fun e w' h => rg_yes hq rfl rfl L1.out h
    have A1 : Hid (∀ u a c raw, MsRd u a (withM ms id 1) raw → (a = none → c = 0) → Calls Tryz.prog 11 #[.agg #[.int .u64 (E + 1), .slice a (n + 1 : Nat) c], .int .i64 id] u fun e w' => YesOut (E + 2) (withM ms id 2) (n + 1) u e w') := fun u a c raw h h1 => (ch1 h L1.out h1 (by omega) l1.ok).mono fun e w' h => rg_yes k1.2.1 (by omega) k1.2.2.2.2.1 L2.out h
    have V2 : Hid (∀ u a c raw, MsRd u a (withM ms id 2) raw → (a = none → c = 0) → Calls Tryz.prog 12 #[.agg #[.int .u64 (E + 2), .slice a (n + 1 : Nat) c], .int .i64 id] u fun e w' => YesOut (E + 3) (withM ms id 3) (n + 1) u e w') := fun u a c raw h h1 => (ch2 h L2.out h1 (by omega) l2.ok).mono fun e w' h => rg_yes k2.2.2.1 (by omega) k2.2.2.2.2.2.1 L3.out h
    have R1 : Hid (∀ u a c raw, MsRd u a (withM ms id 1) raw → Calls Tryz.prog 26 #[.agg #[.int .u64 (E + 1), .slice a (n + 1 : Nat) c], .int .u32 h, .int .i64 (K : Int)] u fun e w' => RqOut (repM ms h) K u e w') := fun u a c raw hx => (rp_ok hx L1.out l1.ok).mono fun e w' hy => by
      have := rq_of hK l1.ok (by rw [repM_idle _ _ _ _ (by decide)]; exact hle) hy
      rw [repM_idle _ _ _ _ (by decide)] at this; exact this
    have R3 : Hid (∀ u a c raw, MsRd u a (withM ms id 3) raw → Calls Tryz.prog 26 #[.agg #[.int .u64 (E + 3), .slice a (n + 1 : Nat) c], .int .u32 h, .int .i64 (K : Int)] u fun e w' => RqOut (repM ms h) K u e w') := fun u a c raw hx => (rp_ok hx L3.out l3.ok).mono fun e w' hy => by
      have := rq_of hK l3.ok (by rw [repM_idle _ _ _ _ (by decide)]; exact hle) hy
      rw [repM_idle _ _ _ _ (by decide)] at this; exact this
    have HT := turn_others ho hid hh h K hle
    have R2 : Hid (∀ u a c raw, MsRd u a (withM ms id 2) raw → Calls Tryz.prog 26 #[.agg #[.int .u64 (E + 2), .slice a (n + 1 : Nat) c], .int .u32 h, .int .i64 (K : Int)] u fun e w' => RqOut (repM (withM ms id 2) h) K u e w') := fun u a c raw hx => (rp_ok hx L2.out l2.ok).mono fun e w' hy => rq_of hK l2.ok HT.1 hy
    replace C1 := C1.mono (fun e w' hy => rq_of hK ho hle hy)
    generalize repM (withM ms id 2) h = RR at HT R2
    have HT' : Hid (K ≤ RR.length ∧ K ≤ ((RR.take K).filter (fun x => decide (x ≠ id))).length + 1 ∧ ((RR.take K).filter (fun x => decide (x ≠ id))).length ≤ K ∧ ((RR.take K).filter (fun x => decide (x ≠ id))) = (repM ms h).take ((RR.take K).filter (fun x => decide (x ≠ id))).length) := HT
    generalize repM ms h = R0 at *
    have HLE : Hid (K ≤ R0.length) := hle
    have SI : Hid (∀ u a b c d, SRd intE u a (R0.take K) → SRd intE u b (R0.take K) → Calls Tryz.prog 27 #[.slice a K c, .slice b K d] u fun e w' => e = .returned (.bool true) ∧ u.grownBy w' none) := fun u a b c d h1 h2 => by
      refine (isameQ a b (R0.take K) (R0.take K) K K c d u h1 h2 (by rw [List.length_take]; omega) (by rw [List.length_take]; omega) (by omega)).mono ?_
      rintro e w' ⟨rfl, n, rfl⟩
      exact ⟨by simp, gb_drewN _ _⟩
    clear hc hq HT hle hE hn hK k1 k2 l1 l2 l3 ho hE9 hid hh RP0 JO
    obtain ⟨n1, en1⟩ : ∃ n1 : Nat, n + 1 = n1 := ⟨_, rfl⟩
    rw [en1] at L1 L2 L3 CP1 CP2 J0 A1 V2 R1 R2 R3
    clear en1
    generalize withM ms id 1 = M1 at *
    generalize withM ms id 2 = M2 at *
    generalize withM ms id 3 = M3 at *
    go_wp2_with fail
    refine C1.mono ?_
    clear C1
    rintro e u2 ⟨gw, cw, rfl, s9, kw, g9⟩
    replace HG : Hid (w.grownBy (u2) none) := HG.out.trans g9
    replace HBr : Hid (RgBox (u2) B (E) a n c ms raw) := HBr.out.grown g9
    have HFw : Hid (SRd intE u2 (some ⟨gw, 0, none⟩) (R0.take K)) := s9
    clear g9 s9
    obtain ⟨x0r, x1r⟩ := HBr.out.cells
    have C3 := CP0.out (E) _ a c _ HBr.out.rd
    go_wp2_with fail
    clear x0r x1r
    refine C3.mono ?_
    clear C3
    rintro e u4 ⟨a1, c1, raw1, rfl, m9, nl9, g9⟩
    replace HG : Hid (w.grownBy (u4) none) := HG.out.trans g9
    replace HBr : Hid (RgBox (u4) B (E) a n c ms raw) := HBr.out.grown g9
    replace HFw : Hid (SRd intE (u4) (some ⟨gw, 0, none⟩) (R0.take K)) := HFw.out.grown g9 (by simp)
    have C9 := J0.out _ _ _ _ m9 nl9
    clear g9  m9 nl9
    go_wp2_with fail
    refine C9.mono ?_
    clear C9
    rintro e u5 ⟨aa, ca, rawa, rfl, m9, nl9, g9⟩
    obtain ⟨Ba, eBa⟩ : ∃ B, u5.heap.size = B := ⟨_, rfl⟩
    have EBa : Hid (u5.heap.size = Ba) := eBa
    have hx := RgBox.made (E := E + 1) m9 nl9 L1.out
    rw [eBa] at hx
    have gA := g9.trans (World.grownBy_alloc u5 (.cells #[.int .u64 (E + 1), .slice aa n1 ca] 25) none)
    replace HG : Hid (w.grownBy (u5.alloc (.cells #[.int .u64 (E + 1), .slice aa n1 ca] 25)) none) := HG.out.trans gA
    replace HBr : Hid (RgBox (u5.alloc (.cells #[.int .u64 (E + 1), .slice aa n1 ca] 25)) B (E) a n c ms raw) := HBr.out.grown gA
    replace HFw : Hid (SRd intE (u5.alloc (.cells #[.int .u64 (E + 1), .slice aa n1 ca] 25)) (some ⟨gw, 0, none⟩) (R0.take K)) := HFw.out.grown gA (by simp)
    have HBa : Hid (RgBox (u5.alloc (.cells #[.int .u64 (E + 1), .slice aa n1 ca] 25)) Ba (E + 1) aa n1 ca M1 rawa) := hx
    clear hx gA m9 nl9 g9 eBa
    obtain ⟨x0a, x1a⟩ := HBa.out.cells
    obtain ⟨x0r, x1r⟩ := HBr.out.cells
    have C6 := CP1.out (E + 1) _ aa ca _ HBa.out.rd
    go_wp2_with fail
    try rw [EBa.out]
    generalize u5.alloc (.cells #[.int .u64 (E + 1), .slice aa n1 ca] 25) = W5 at *
    clear x0a x1a
    clear x0r x1r
    refine C6.mono ?_
    clear C6
    rintro e u7 ⟨a1, c1, raw1, rfl, m9, nl9, g9⟩
    replace HG : Hid (w.grownBy (u7) none) := HG.out.trans g9
    replace HBr : Hid (RgBox (u7) B (E) a n c ms raw) := HBr.out.grown g9
    replace HBa : Hid (RgBox (u7) Ba (E + 1) aa n1 ca M1 rawa) := HBa.out.grown g9
    replace HFw : Hid (SRd intE (u7) (some ⟨gw, 0, none⟩) (R0.take K)) := HFw.out.grown g9 (by simp)
    have C9 := A1.out _ _ _ _ m9 nl9
    clear g9  m9 nl9
    go_wp2_with fail
    refine C9.mono ?_
    clear C9
    rintro e u8 ⟨ab, cb, rawb, rfl, m9, nl9, g9⟩
    obtain ⟨Bb, eBb⟩ : ∃ B, u8.heap.size = B := ⟨_, rfl⟩
    have EBb : Hid (u8.heap.size = Bb) := eBb
    have hx := RgBox.made (E := E + 2) m9 nl9 L2.out
    rw [eBb] at hx
    have gA := g9.trans (World.grownBy_alloc u8 (.cells #[.int .u64 (E + 2), .slice ab n1 cb] 25) none)
    replace HG : Hid (w.grownBy (u8.alloc (.cells #[.int .u64 (E + 2), .slice ab n1 cb] 25)) none) := HG.out.trans gA
    replace HBr : Hid (RgBox (u8.alloc (.cells #[.int .u64 (E + 2), .slice ab n1 cb] 25)) B (E) a n c ms raw) := HBr.out.grown gA
    replace HBa : Hid (RgBox (u8.alloc (.cells #[.int .u64 (E + 2), .slice ab n1 cb] 25)) Ba (E + 1) aa n1 ca M1 rawa) := HBa.out.grown gA
    replace HFw : Hid (SRd intE (u8.alloc (.cells #[.int .u64 (E + 2), .slice ab n1 cb] 25)) (some ⟨gw, 0, none⟩) (R0.take K)) := HFw.out.grown gA (by simp)
    have HBb : Hid (RgBox (u8.alloc (.cells #[.int .u64 (E + 2), .slice ab n1 cb] 25)) Bb (E + 2) ab n1 cb M2 rawb) := hx
    clear hx gA m9 nl9 g9 eBb
    obtain ⟨x0b, x1b⟩ := HBb.out.cells
    have C9 := CP2.out (E + 2) _ ab cb _ HBb.out.rd
    go_wp2_with fail
    try rw [EBb.out]
    generalize u8.alloc (.cells #[.int .u64 (E + 2), .slice ab n1 cb] 25) = W8 at *
    clear x0b x1b
    refine C9.mono ?_
    clear C9
    rintro e u10 ⟨a1, c1, raw1, rfl, m9, nl9, g9⟩
    replace HG : Hid (w.grownBy (u10) none) := HG.out.trans g9
    replace HBa : Hid (RgBox (u10) Ba (E + 1) aa n1 ca M1 rawa) := HBa.out.grown g9
    replace HBb : Hid (RgBox (u10) Bb (E + 2) ab n1 cb M2 rawb) := HBb.out.grown g9
    replace HFw : Hid (SRd intE (u10) (some ⟨gw, 0, none⟩) (R0.take K)) := HFw.out.grown g9 (by simp)
    have C9 := V2.out _ _ _ _ m9 nl9
    clear g9  m9 nl9
    go_wp2_with fail
    refine C9.mono ?_
    clear C9
    rintro e u11 ⟨ac, cc, rawc, rfl, m9, nl9, g9⟩
    obtain ⟨Bc, eBc⟩ : ∃ B, u11.heap.size = B := ⟨_, rfl⟩
    have EBc : Hid (u11.heap.size = Bc) := eBc
    have hx := RgBox.made (E := E + 3) m9 nl9 L3.out
    rw [eBc] at hx
    have gA := g9.trans (World.grownBy_alloc u11 (.cells #[.int .u64 (E + 3), .slice ac n1 cc] 25) none)
    replace HG : Hid (w.grownBy (u11.alloc (.cells #[.int .u64 (E + 3), .slice ac n1 cc] 25)) none) := HG.out.trans gA
    replace HBa : Hid (RgBox (u11.alloc (.cells #[.int .u64 (E + 3), .slice ac n1 cc] 25)) Ba (E + 1) aa n1 ca M1 rawa) := HBa.out.grown gA
    replace HBb : Hid (RgBox (u11.alloc (.cells #[.int .u64 (E + 3), .slice ac n1 cc] 25)) Bb (E + 2) ab n1 cb M2 rawb) := HBb.out.grown gA
    replace HFw : Hid (SRd intE (u11.alloc (.cells #[.int .u64 (E + 3), .slice ac n1 cc] 25)) (some ⟨gw, 0, none⟩) (R0.take K)) := HFw.out.grown gA (by simp)
    have HBc : Hid (RgBox (u11.alloc (.cells #[.int .u64 (E + 3), .slice ac n1 cc] 25)) Bc (E + 3) ac n1 cc M3 rawc) := hx
    clear hx gA m9 nl9 g9 eBc
    obtain ⟨x0a, x1a⟩ := HBa.out.cells
    have C12 := R1.out _ aa ca _ HBa.out.rd
    go_wp2_with fail
    try rw [EBc.out]
    generalize u11.alloc (.cells #[.int .u64 (E + 3), .slice ac n1 cc] 25) = W11 at *
    clear x0a x1a
    refine C12.mono ?_
    clear C12
    rintro e u13 ⟨gx, cx, rfl, s9, kx, g9⟩
    replace HG : Hid (w.grownBy (u13) none) := HG.out.trans g9
    replace HBa : Hid (RgBox (u13) Ba (E + 1) aa n1 ca M1 rawa) := HBa.out.grown g9
    replace HBb : Hid (RgBox (u13) Bb (E + 2) ab n1 cb M2 rawb) := HBb.out.grown g9
    replace HBc : Hid (RgBox (u13) Bc (E + 3) ac n1 cc M3 rawc) := HBc.out.grown g9
    replace HFw : Hid (SRd intE (u13) (some ⟨gw, 0, none⟩) (R0.take K)) := HFw.out.grown g9 (by simp)
    have HFx : Hid (SRd intE u13 (some ⟨gx, 0, none⟩) (R0.take K)) := s9
    clear g9 s9
    obtain ⟨x0b, x1b⟩ := HBb.out.cells
    have C13 := R2.out _ ab cb _ HBb.out.rd
    go_wp2_with fail
    clear x0b x1b
    refine C13.mono ?_
    clear C13
    rintro e u14 ⟨gy, cy, rfl, s9, ky, g9⟩
    replace HG : Hid (w.grownBy (u14) none) := HG.out.trans g9
    replace HBa : Hid (RgBox (u14) Ba (E + 1) aa n1 ca M1 rawa) := HBa.out.grown g9
    replace HBb : Hid (RgBox (u14) Bb (E + 2) ab n1 cb M2 rawb) := HBb.out.grown g9
    replace HBc : Hid (RgBox (u14) Bc (E + 3) ac n1 cc M3 rawc) := HBc.out.grown g9
    replace HFw : Hid (SRd intE (u14) (some ⟨gw, 0, none⟩) (R0.take K)) := HFw.out.grown g9 (by simp)
    replace HFx : Hid (SRd intE (u14) (some ⟨gx, 0, none⟩) (R0.take K)) := HFx.out.grown g9 (by simp)
    have HFy : Hid (SRd intE u14 (some ⟨gy, 0, none⟩) (RR.take K)) := s9
    clear g9 s9
    obtain ⟨x0c, x1c⟩ := HBc.out.cells
    have C14 := R3.out _ ac cc _ HBc.out.rd
    go_wp2_with fail
    clear x0c x1c
    refine C14.mono ?_
    clear C14
    rintro e u15 ⟨gz, cz, rfl, s9, kz, g9⟩
    replace HG : Hid (w.grownBy (u15) none) := HG.out.trans g9
    replace HBa : Hid (RgBox (u15) Ba (E + 1) aa n1 ca M1 rawa) := HBa.out.grown g9
    replace HBb : Hid (RgBox (u15) Bb (E + 2) ab n1 cb M2 rawb) := HBb.out.grown g9
    replace HBc : Hid (RgBox (u15) Bc (E + 3) ac n1 cc M3 rawc) := HBc.out.grown g9
    replace HFw : Hid (SRd intE (u15) (some ⟨gw, 0, none⟩) (R0.take K)) := HFw.out.grown g9 (by simp)
    replace HFx : Hid (SRd intE (u15) (some ⟨gx, 0, none⟩) (R0.take K)) := HFx.out.grown g9 (by simp)
    replace HFy : Hid (SRd intE (u15) (some ⟨gy, 0, none⟩) (RR.take K)) := HFy.out.grown g9 (by simp)
    have HFz : Hid (SRd intE u15 (some ⟨gz, 0, none⟩) (R0.take K)) := s9
    clear g9 s9
    clear HBa HBb HBc
    have C15 := SI.out _ _ _ cx cw HFx.out HFw.out
    go_wp2_with fail
    refine C15.mono ?_
    clear C15
    rintro e u16 ⟨rfl, g9⟩
    replace HG : Hid (w.grownBy (u16) none) := HG.out.trans g9
    replace HFw : Hid (SRd intE (u16) (some ⟨gw, 0, none⟩) (R0.take K)) := HFw.out.grown g9 (by simp)
    replace HFx : Hid (SRd intE (u16) (some ⟨gx, 0, none⟩) (R0.take K)) := HFx.out.grown g9 (by simp)
    replace HFy : Hid (SRd intE (u16) (some ⟨gy, 0, none⟩) (RR.take K)) := HFy.out.grown g9 (by simp)
    replace HFz : Hid (SRd intE (u16) (some ⟨gz, 0, none⟩) (R0.take K)) := HFz.out.grown g9 (by simp)
    clear g9 
    have C16 := SI.out _ _ _ cz cw HFz.out HFw.out
    go_wp2_with fail
    refine C16.mono ?_
    clear C16
    rintro e u17 ⟨rfl, g9⟩
    replace HG : Hid (w.grownBy (u17) none) := HG.out.trans g9
    replace HFw : Hid (SRd intE (u17) (some ⟨gw, 0, none⟩) (R0.take K)) := HFw.out.grown g9 (by simp)
    replace HFx : Hid (SRd intE (u17) (some ⟨gx, 0, none⟩) (R0.take K)) := HFx.out.grown g9 (by simp)
    replace HFy : Hid (SRd intE (u17) (some ⟨gy, 0, none⟩) (RR.take K)) := HFy.out.grown g9 (by simp)
    replace HFz : Hid (SRd intE (u17) (some ⟨gz, 0, none⟩) (R0.take K)) := HFz.out.grown g9 (by simp)
    clear g9 
    have hkk : ((K : Int) != (K : Int)) = false := by simp
    go_wp2_with fail
    generalize u17 = V at *
    obtain ⟨N0, eN0⟩ : ∃ N0, V.heap.size = N0 := ⟨_, rfl⟩
    have EN0 : Hid (V.heap.size = N0) := eN0
    clear eN0 HFx HFz
    go_loopw [24, 25] (fun t24 t25 wr => ∃ (i : Nat) (oa : Option Addr) (oc : Nat), i ≤ K ∧ t25 = .int .i64 (i : Int) ∧ t24 = .slice oa ((RR.take i).filter (fun x => decide (x ≠ id))).length oc ∧ SOwn intE 3 wr N0 (.slice oa ((RR.take i).filter (fun x => decide (x ≠ id))).length oc) ((RR.take i).filter (fun x => decide (x ≠ id))).length ((RR.take i).filter (fun x => decide (x ≠ id))) ∧ V.grownBy wr none) (fun _ t25 _ => K - (intOf t25).toNat)
    case atStart => exact ⟨0, none, 0, by omega, rfl, rfl, SOwn.nil 3 V _, World.grownBy.refl _ _⟩
    case round =>
      obtain ⟨i, oa, oc, hi, rfl, rfl, ho, hg⟩ := hrel
      have HO : Hid (SOwn intE 3 wr N0 (.slice oa ((RR.take i).filter (fun x => decide (x ≠ id))).length oc) ((RR.take i).filter (fun x => decide (x ≠ id))).length ((RR.take i).filter (fun x => decide (x ≠ id)))) := ho
      have HGV : Hid (V.grownBy wr none) := hg
      clear ho hg
      by_cases hlt : i < K
      · have hki : (i : Int) < (K : Int) := by omega
        have hK5 := HK.out
        have hl := HT'.out.1
        obtain ⟨v, hv⟩ : ∃ v, RR[i]? = some v := ⟨_, List.getElem?_eq_getElem (by omega)⟩
        have hcell : wr.cell? ⟨gy, i, none⟩ = some (.int .i64 v) := by
          obtain ⟨ba, off, e2, hca⟩ := (HFy.out.grown HGV.out (by simp)).at (by rw [List.length_take]; omega)
          cases e2
          have := hca i v 0 (.int .i64 v) (by rw [List.getElem?_take, if_pos (by omega)]; exact hv) rfl
          simpa [intE] using this
        have HTK : Hid (RR.take (i + 1) = RR.take i ++ [v]) := by show _ = _; rw [List.take_add_one, hv]; rfl
        have HLL : Hid (((RR.take i).filter (fun x => decide (x ≠ id))).length ≤ 5) := by
          show _ ≤ _
          have h1 := List.length_filter_le (fun x => decide (x ≠ id)) (RR.take i)
          rw [List.length_take] at h1
          omega
        clear hl hv
        by_cases hne : v = id
        · have hb : (v != id) = false := by simp [hne]
          have HFI : Hid ((RR.take (i + 1)).filter (fun x => decide (x ≠ id)) = (RR.take i).filter (fun x => decide (x ≠ id))) := by
            show _ = _
            rw [HTK.out, List.filter_append, List.filter_cons_of_neg (by simp [hne])]; simp
          clear hne
          go_wp2
          go_roundw
          case rel => exact ⟨i + 1, oa, oc, by omega, by go_num, by rw [HFI.out], by rw [HFI.out]; exact HO.out, HGV.out⟩
          case measure => simp [intOf]; omega
        · have hb : (v != id) = true := by simp [hne]
          have HFI : Hid ((RR.take (i + 1)).filter (fun x => decide (x ≠ id)) = (RR.take i).filter (fun x => decide (x ≠ id)) ++ [v]) := by
            show _ = _
            rw [HTK.out, List.filter_append, List.filter_cons_of_pos (by simp [hne])]; rfl
          clear hne
          generalize (RR.take i).filter (fun x => decide (x ≠ id)) = F0 at *
          obtain ⟨L, eL⟩ : ∃ L, F0.length = L := ⟨_, rfl⟩
          have EL : Hid (F0.length = L) := eL
          rw [eL] at HO HLL ⊢
          clear eL
          have hL5 := HLL.out
          have HOA : Hid (SOwn intE 3 (wr.alloc (.cells #[.int .i64 v] 3)) N0 (.slice oa L oc) L F0) := SOwn.kept HO.out (World.grownBy_alloc wr _ none) (Classical.em _)
          have HRA : Hid (SRd intE (wr.alloc (.cells #[.int .i64 v] 3)) (some ⟨wr.heap.size, 0, none⟩) [v]) := srd_lit intE 3 wr [v]
          have HSA : Hid (N0 ≤ (wr.alloc (.cells #[.int .i64 v] 3)).heap.size) := by
            show _ ≤ _
            rw [size_alloc]
            have := HGV.out.size
            have := EN0.out
            omega
          have HNX : Hid (∀ v7 w7, SOwn intE 3 w7 N0 v7 (L + 1) (F0 ++ [v]) → (wr.alloc (.cells #[.int .i64 v] 3)).grownBy w7 (Value.slice oa L oc).ownBlock → Hid (∃ a7 c7, v7 = .slice a7 (L + 1) c7 ∧ SOwn intE 3 w7 N0 (.slice a7 (L + 1) c7) (L + 1) (F0 ++ [v]) ∧ V.grownBy w7 none)) := by
            intro v7 w7 ho7 hg7
            obtain ⟨a7, c7, rfl⟩ := sown_slice ho7
            refine ⟨a7, c7, rfl, ho7, ?_⟩
            refine gb_trans (HGV.out.trans (World.grownBy_alloc wr _ none)) hg7 (fun j hj => .inl ?_)
            have := (SOwn.block HO.out j hj).1
            have := EN0.out
            omega
          go_wp2_with (at_builtin; refine wpList_append_at intT rfl (.tmp 127) (.tmp 132) rfl N0 (.slice oa L oc) L _ rfl HOA.out ⟨wr.heap.size, 0, none⟩ [v] 1 1 rfl rfl HRA.out (by omega) (by unfold maxLen; omega) HSA.out ?_; intro v7 w7 ho7 hg7 hn7 hl7; have HR7 := HNX.out v7 w7 ho7 hg7; clear ho7 hg7 hn7 hl7)
          go_roundw
          case rel =>
            obtain ⟨a7, c7, e7, h1, h2⟩ := HR7.out
            have e8 : ((RR.take (i + 1)).filter (fun x => decide (x ≠ id))).length = L + 1 := by rw [HFI.out, List.length_append, EL.out]; rfl
            exact ⟨i + 1, a7, c7, by omega, by go_num, by rw [e8]; exact e7, by rw [e8, HFI.out]; exact h1, h2⟩
          case measure => simp [intOf]; omega
      · obtain rfl : i = K := by omega
        obtain ⟨t1, t2, t3, t4⟩ := HT'.out
        have HO2 : Hid (SRd intE wr oa ((RR.take i).filter (fun x => decide (x ≠ id)))) := SOwn.rd HO.out
        rw [t4] at HO2
        generalize hF : ((RR.take i).filter (fun x => decide (x ≠ id))).length = L at *
        have hK5 := HK.out
        have hlen : (R0.take L).length = L := by rw [List.length_take]; have := HLE.out; omega
        have HW2 : Hid (SRd intE wr (some ⟨gw, 0, none⟩) (R0.take L)) := by
          have := srd_takeI (HFw.out.grown HGV.out (by simp)) L
          rw [List.take_take, Nat.min_eq_left (by omega)] at this
          exact this
        have C5 := isameQ oa (some ⟨gw, 0, none⟩) (R0.take L) (R0.take L) L L oc cw wr HO2.out HW2.out hlen hlen (by omega)
        have C6 : Hid (∀ u, Calls Tryz.prog 24 #[] u fun e w' => e = .returned (.bool true) ∧ u.grownBy w' none) := AW.out
        rw [show decide (R0.take L = R0.take L) = true by simp] at C5
        have b1 : (0 : Int) ≤ (L : Int) := by omega
        have b2 : (L : Int) ≤ (cw : Int) := by omega
        have b3 : IntKind.i64.wrap ((i : Int) - 1) = (i : Int) - 1 := by rw [IntKind.wrap_i64]; omega
        have b4 : (i : Int) - 1 ≤ (L : Int) := by omega
        clear t1 t2 t3 t4 HO HO2 HW2 HT' hF hlen
        go_wp2_with fail
        refine C5.mono ?_
        rintro e v1 ⟨rfl, nn, rfl⟩
        have C7 := C6.out (wr.drewN nn)
        clear C5
        go_wp2_with fail
        refine C7.mono ?_
        rintro e v2 ⟨rfl, g9⟩
        have HZ : Hid (w.grownBy v2 none) := ((HG.out.trans HGV.out).trans (gb_drewN _ _)).trans g9
        clear g9 C7
        go_wp2
        go_ret
        exact ⟨rfl, HZ.out⟩
  · have hno : (repC ms h K != 0) = true ∨ (repC ms h K != 0) = false ∧ ((chgE 0 E ms id != 0) = true ∨ (chgE 0 E ms id != 0) = false ∧ 4611686018427387904 < E) := by
      by_cases h1 : repC ms h K = 0
      · refine .inr ⟨by simp [h1], ?_⟩
        by_cases h2 : chgE 0 E ms id = 0
        · refine .inr ⟨by simp [h2], ?_⟩
          apply Classical.byContradiction
          intro h3
          exact hyes ⟨h1, h2, h3⟩
        · exact .inl (by simp [h2])
      · exact .inl (by simp [h1])
    have C2 : Calls Tryz.prog 26 _ u1 fun e w' => RnOut (repC ms h K) u1 e w' := C1.mono (fun e w' hx => by
      obtain ⟨a', c', rfl, _, h2⟩ := hx
      exact ⟨a', _, c', rfl, h2⟩)
    have J0 : Hid (∀ u a c raw, MsRd u a ms raw → (a = none → c = 0) → Calls Tryz.prog 10 #[.agg #[.int .u64 E, .slice a n c], .int .i64 id] u fun e w' => NoOut (chgE 0 E ms id) u e w') := fun u a c raw h h1 => (JO.out u a c raw h h1).mono fun e w' h => rg_no rfl h
    generalize repC ms h K = q0 at *
    generalize chgE 0 E ms id = q1 at *
    have HNO : Hid ((q0 != 0) = true ∨ (q0 != 0) = false ∧ ((q1 != 0) = true ∨ (q1 != 0) = false ∧ 4611686018427387904 < E)) := hno
    clear hno hyes C1 JO RP0
    go_wp2_with fail
    refine C2.mono ?_
    clear C2
    rintro e u2 ⟨aw, nw, cw, rfl, g9⟩
    replace HG : Hid (w.grownBy (u2) none) := HG.out.trans g9
    replace HBr : Hid (RgBox (u2) B (E) a n c ms raw) := HBr.out.grown g9
    clear g9 
    obtain ⟨x0r, x1r⟩ := HBr.out.cells
    have C3 := CP0.out (E) _ a c _ HBr.out.rd
    go_wp2_with fail
    clear x0r x1r
    refine C3.mono ?_
    clear C3
    rintro e u4 ⟨a1, c1, raw1, rfl, m9, nl9, g9⟩
    replace HG : Hid (w.grownBy (u4) none) := HG.out.trans g9
    replace HBr : Hid (RgBox (u4) B (E) a n c ms raw) := HBr.out.grown g9
    have C9 := J0.out _ _ _ _ m9 nl9
    clear g9  m9 nl9
    go_wp2_with fail
    refine C9.mono ?_
    clear C9
    rintro e u5 ⟨ej, aj, nj, cj, rfl, g9⟩
    have gA := g9.trans (World.grownBy_alloc u5 (.cells #[.int .u64 ej, .slice aj nj cj] 25) none)
    replace HG : Hid (w.grownBy (u5.alloc (.cells #[.int .u64 ej, .slice aj nj cj] 25)) none) := HG.out.trans gA
    replace HBr : Hid (RgBox (u5.alloc (.cells #[.int .u64 ej, .slice aj nj cj] 25)) B (E) a n c ms raw) := HBr.out.grown gA
    clear gA g9
    obtain ⟨x0, x1⟩ := HBr.out.cells
    have HCL := AW.out (u5.alloc (.cells #[.int .u64 ej, .slice aj nj cj] 25))
    rcases HNO.out with hq9 | ⟨hq9, hq8 | ⟨hq8, hq7⟩⟩
    · go_wp2_with fail
      refine HCL.mono ?_
      rintro e w9 ⟨rfl, hg9⟩
      have HG9 : Hid (w.grownBy w9 none) := HG.out.trans hg9
      clear hg9
      go_wp2
      go_ret
      exact ⟨rfl, HG9.out⟩
    · go_wp2_with fail
      refine HCL.mono ?_
      rintro e w9 ⟨rfl, hg9⟩
      have HG9 : Hid (w.grownBy w9 none) := HG.out.trans hg9
      clear hg9
      go_wp2
      go_ret
      exact ⟨rfl, HG9.out⟩
    · go_wp2_with fail
      refine HCL.mono ?_
      rintro e w9 ⟨rfl, hg9⟩
      have HG9 : Hid (w.grownBy w9 none) := HG.out.trans hg9
      clear hg9
      go_wp2
      go_ret
      exact ⟨rfl, HG9.out⟩
theorem ringTurns_walk (E : Int) (a : Option Addr) (c : Nat) (raw : List MRow) (ms : List Mem) (id h rf : Int) (w : World) (hr : MsRd w a ms raw) (hnil : a = none → c = 0) (hE : 0 ≤ E ∧ E ≤ 18446744073709551615) (hz : ms.length ≤ 3518437208800) (hz2 : ∀ s ∈ ms, s.2.2.length ≤ 35184372088832) :
    Calls Tryz.prog 7 #[.agg #[.int .u64 E, .slice a ms.length c], .int .i64 id, .int .u32 h, .int .i64 rf] w fun e w' => e = .returned (.bool true) ∧ Below w.heap.size w w' := by
  refine (turns_walk E a _ c raw ms id h rf w hr hnil hE rfl hz hz2).mono ?_
  rintro e w' ⟨rfl, hg⟩
  exact ⟨rfl, (Below.refl _ w).grown hg (Nat.le_refl _) (fun k hk => by cases hk)⟩
end Go.Proofs.YtaljjemickonaaaGreat

