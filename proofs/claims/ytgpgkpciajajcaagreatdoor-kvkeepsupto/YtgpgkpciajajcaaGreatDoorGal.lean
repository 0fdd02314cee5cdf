/- Several texts in one: Wr, Wf, Wa. -/
import Derived.Test.YtgpgkpciajajcaaGreatDoorGak
import Derived.WalkMore
import Derived.ScopeJumps
import Derived.Deep.CutRange
/- Package wal: replay: the records that stand in a file. -/
namespace Go.Proofs.YtgpgkpciajajcaaGreatDoor
open Go.RowKit Go.Maps Go.Sort
set_option linter.unusedVariables false
set_option maxRecDepth 20000

/-- A slice as it lies in a slice of slices. -/
abbrev Sl := Option Addr × Nat × Nat
def slV (t : Sl) : Value := .slice t.1 t.2.1 t.2.2
def slE : Elem Sl where
  cells t := [slV t]
  size := 1
  pos := by decide
  len _ := rfl
  one t v h := by
    simp only [List.mem_cons, List.mem_nil_iff, or_false] at h
    subst h
    rfl
theorem info27 : (Tryz.prog.info? 37).map (fun i => (i.zero, i.size, i.bytes)) = some (some (.slice none 0 0), 1, 24) := by kernel_rfl
theorem slET : ElemOf slE Tryz.prog 71 37 24 := by
  obtain ⟨i0, hi, hz0, hz1, hz2⟩ := info_parts info27
  exact ⟨Tryz.underlying71, i0, _, hi, hz0, hz1, hz2, rfl⟩
/-- A slice holds a record; its memory lies from lo on, and isn't the block o. -/
def RecAt (w : World) (lo : Nat) (o : Option Nat) (t : Sl) (r : List Int) : Prop := t.2.1 = r.length ∧ r.length ≤ t.2.2 ∧ (t.1 = none → t.2.2 = 0) ∧ Rd w t.1 r ∧ (r ≠ [] → ∀ x, t.1 = some x → lo ≤ x.block ∧ some x.block ≠ o)
def RecsAt (w : World) (lo : Nat) (o : Option Nat) : List Sl → List (List Int) → Prop
  | [], [] => True
  | t :: ts, r :: rs => RecAt w lo o t r ∧ RecsAt w lo o ts rs
  | _, _ => False
theorem RecsAt.len {w : World} {lo : Nat} {o : Option Nat} : ∀ {ts : List Sl} {rs : List (List Int)}, RecsAt w lo o ts rs → ts.length = rs.length
  | [], [], _ => rfl
  | t :: ts, r :: rs, h => by rw [List.length_cons, List.length_cons, RecsAt.len h.2]
  | [], _ :: _, h => h.elim
  | _ :: _, [], h => h.elim
theorem rd_lt {w : World} {x : Addr} {r : List Int} (h : Rd w (some x) r) (hr : r ≠ []) : x.block < w.heap.size := by
  rcases h.1 with h1 | ⟨b, off, e, hc⟩
  · exact absurd h1 hr
  · have h0 : 0 < r.length := by cases r with
      | nil => exact absurd rfl hr
      | cons _ _ => simp
    have := hc 0 h0
    cases e
    rcases Nat.lt_or_ge b w.heap.size with h2 | h2
    · exact h2
    · exfalso
      unfold World.cell? at this
      simp only at this
      rw [Array.getElem?_eq_none h2] at this
      cases this
theorem rd_block {w w' : World} {a : Option Addr} {r : List Int} (h : Rd w a r) (hb : r ≠ [] → ∀ x, a = some x → w'.heap[x.block]? = w.heap[x.block]?) : Rd w' a r := by
  refine ⟨?_, h.2⟩
  by_cases hr : r = []
  · exact .inl hr
  · rcases h.1 with h1 | ⟨b, off, e, hc⟩
    · exact absurd h1 hr
    · refine .inr ⟨b, off, e, fun i hi => ?_⟩
      rw [← hc i hi]
      have := hb hr _ e
      unfold World.cell?
      simp only at this ⊢
      rw [this]
theorem RecsAt.keptB {w w' : World} {lo : Nat} {o : Option Nat} (hb : ∀ k, lo ≤ k → k < w.heap.size → some k ≠ o → w'.heap[k]? = w.heap[k]?) : ∀ {ts : List Sl} {rs : List (List Int)}, RecsAt w lo o ts rs → RecsAt w' lo o ts rs
  | [], [], _ => trivial
  | t :: _, r :: _, h => ⟨⟨h.1.1, h.1.2.1, h.1.2.2.1, rd_block h.1.2.2.2.1 (fun hr x hx => hb _ (h.1.2.2.2.2 hr x hx).1 (rd_lt (hx ▸ h.1.2.2.2.1) hr) (h.1.2.2.2.2 hr x hx).2), h.1.2.2.2.2⟩, RecsAt.keptB hb h.2⟩
  | [], _ :: _, h => h.elim
  | _ :: _, [], h => h.elim
theorem RecsAt.kept {w w' : World} {lo : Nat} {o row : Option Nat} {ts : List Sl} {rs : List (List Int)} (h : RecsAt w lo o ts rs) (hg : w.grownBy w' row) (hr : ∀ k, row = some k → k < lo ∨ o = some k) : RecsAt w' lo o ts rs :=
  h.keptB (fun k h1 h2 h3 => hg.block k h2 (fun e => by rcases hr k e.symm with h4 | h4; omega; exact h3 h4.symm))
theorem RecsAt.keptK {w w' : World} {lo : Nat} {o : Option Nat} {X : Nat → Prop} {ts : List Sl} {rs : List (List Int)} (h : RecsAt w lo o ts rs) (hg : Kept w w' X) (hX : ∀ k, lo ≤ k → k < w.heap.size → ¬ X k) : RecsAt w' lo o ts rs :=
  h.keptB (fun k h1 h2 _ => hg.block k h2 (hX k h1 h2))
theorem RecsAt.turn {w : World} {lo lo' : Nat} {o o' : Option Nat} (hl : lo' ≤ lo) (ho : ∀ k, o' = some k → w.heap.size ≤ k ∨ k < lo ∨ o = some k) : ∀ {ts : List Sl} {rs : List (List Int)}, RecsAt w lo o ts rs → RecsAt w lo' o' ts rs
  | [], [], _ => trivial
  | _ :: _, _ :: _, h => ⟨⟨h.1.1, h.1.2.1, h.1.2.2.1, h.1.2.2.2.1, fun hr x hx => ⟨Nat.le_trans hl (h.1.2.2.2.2 hr x hx).1, fun e => by
      have h1 := rd_lt (hx ▸ h.1.2.2.2.1) hr
      rcases ho _ e.symm with h2 | h2 | h2
      · omega
      · have := (h.1.2.2.2.2 hr x hx).1
        omega
      · exact (h.1.2.2.2.2 hr x hx).2 h2.symm⟩⟩, RecsAt.turn hl ho h.2⟩
  | [], _ :: _, h => h.elim
  | _ :: _, [], h => h.elim
theorem RecsAt.step {w w' : World} {lo : Nat} {o o' : Option Nat} (hg : w.grownBy w' o) (ho : ∀ k, o' = some k → w.heap.size ≤ k ∨ o = some k) : ∀ {ts : List Sl} {rs : List (List Int)}, RecsAt w lo o ts rs → RecsAt w' lo o' ts rs
  | [], [], _ => trivial
  | _ :: _, _ :: _, h => ⟨⟨h.1.1, h.1.2.1, h.1.2.2.1, rd_block h.1.2.2.2.1 (fun hr x hx => hg.block _ (rd_lt (hx ▸ h.1.2.2.2.1) hr) (h.1.2.2.2.2 hr x hx).2), fun hr x hx => ⟨(h.1.2.2.2.2 hr x hx).1, fun e => by
      have h1 := rd_lt (hx ▸ h.1.2.2.2.1) hr
      rcases ho _ e.symm with h2 | h2
      · omega
      · exact (h.1.2.2.2.2 hr x hx).2 h2.symm⟩⟩, RecsAt.step hg ho h.2⟩
  | [], _ :: _, h => h.elim
  | _ :: _, [], h => h.elim
theorem RecsAt.app {w : World} {lo : Nat} {o : Option Nat} : ∀ {ts ts' : List Sl} {rs rs' : List (List Int)}, RecsAt w lo o ts rs → RecsAt w lo o ts' rs' → RecsAt w lo o (ts ++ ts') (rs ++ rs')
  | [], _, [], _, _, h' => h'
  | _ :: _, _, _ :: _, _, h, h' => ⟨h.1, RecsAt.app h.2 h'⟩
  | [], _, _ :: _, _, h, _ => h.elim
  | _ :: _, _, [], _, h, _ => h.elim
/-- append(out, xs...), xs not empty: where the result lies. -/
theorem wpList_append_t {α : Type} {E : Elem α} {P : Program} {t e : TypeId} {bytes : Nat} (T : ElemOf E P t e bytes) {w : World} {ops : Array Oper} {rest : List Oper} {o : Oper} {a : Act} {Q : Exit → Act → World → Prop} (hgd : o.guard = none) (s x : Operand)
    (ho : o.op = .call { callee := .builtin .append, args := #[s, x], argTypes := #[t, t] }) (base : Nat) (v : Value) (n : Nat) (xs : List α) (hs : a.eval s = v) (hown : SOwn E e w base v n xs)
    (ad : Addr) (zs : List α) (m cap : Nat) (hx : a.eval x = .slice (some ad) m cap) (hm : zs.length = m) (hr : SRd E w (some ad) zs) (hm0 : 0 < m) (hlen : (n + m) * bytes ≤ 140737488355328) (hmax : n + m ≤ maxLen) (hb : base ≤ w.heap.size)
    (h : ∀ g c w', SOwn E e w' base (.slice (some ⟨g, 0, none⟩) (n + m) c) (n + m) (xs ++ zs) → w.grownBy w' v.ownBlock → (v.ownBlock = some g ∨ g = w.heap.size) → wpList P ops Q rest (a.put o.dst (.slice (some ⟨g, 0, none⟩) (n + m) c)) w') : wpList P ops Q (o :: rest) a w := by
  obtain ⟨i0, z, hi, hz0, hz1, hz2, hz3⟩ := T.info
  subst hm
  refine wpList_append_lies w hgd s x t ho base e i0 z E.size bytes T.under hi hz0 hz1 hz2 hz3 E.pos _ n (E.flat xs) hs hown ad zs.length cap (E.flat zs) hx (E.flat_len zs) hr.news (E.flat_one zs) hm0 hmax hlen hb w.heap.size rfl ?_
  intro g c w' hown' hg hgg _
  rw [← E.flat_app] at hown'
  exact h g c w' hown' hg hgg
theorem wpList_append_u {α : Type} {E : Elem α} {P : Program} {t e : TypeId} {bytes : Nat} (T : ElemOf E P t e bytes) {w : World} {ops : Array Oper} {rest : List Oper} {o : Oper} {a : Act} {Q : Exit → Act → World → Prop} (hgd : o.guard = none) (s x : Operand)
    (ho : o.op = .call { callee := .builtin .append, args := #[s, x], argTypes := #[t, t] }) (base : Nat) (va : Option Addr) (vc : Nat) (n : Nat) (xs : List α) (hs : a.eval s = .slice va n vc) (hown : SOwn E e w base (.slice va n vc) n xs)
    (src : Option Addr) (zs : List α) (m cap : Nat) (hx : a.eval x = .slice src m cap) (hm : zs.length = m) (hr : SRd E w src zs) (hnil : m = 0 → src = none ∧ cap = 0) (hlen : (n + m) * bytes ≤ 140737488355328) (hmax : n + m ≤ maxLen) (hb : base ≤ w.heap.size)
    (h : ∀ va' vc' w', SOwn E e w' base (.slice va' (n + m) vc') (n + m) (xs ++ zs) → w.grownBy w' (Value.ownBlock (.slice va n vc)) → (∀ k, Value.ownBlock (.slice va' (n + m) vc') = some k → w.heap.size ≤ k ∨ Value.ownBlock (.slice va n vc) = some k) → (m = 0 → va' = va ∧ vc' = vc) → wpList P ops Q rest (a.put o.dst (.slice va' (n + m) vc')) w') : wpList P ops Q (o :: rest) a w := by
  rcases Nat.eq_zero_or_pos m with h0 | h0
  · subst h0
    obtain ⟨rfl, rfl⟩ := hnil rfl
    obtain rfl : zs = [] := List.eq_nil_of_length_eq_zero hm
    obtain ⟨i0, z, hi, hz0, hz1, hz2, hz3⟩ := T.info
    refine wpList_append_own_none hgd s x t ho base e i0 E.size T.under hi _ n (E.flat xs) hs hown hx ?_
    exact h va vc w (by simpa using hown) (World.grownBy.refl _ _) (fun k hk => .inr hk) (fun _ => ⟨rfl, rfl⟩)
  · cases src with
    | none =>
      have := hr.none
      subst this
      simp at hm
      omega
    | some ad =>
      refine wpList_append_t T hgd s x ho base _ n xs hs hown ad zs m cap hx hm hr h0 hlen hmax hb ?_
      intro g c w' h1 h2 h3
      refine h (some ⟨g, 0, none⟩) c w' h1 h2 (fun k hk => ?_) (fun e => by omega)
      have e : g = k := Option.some.inj hk
      subst e
      rcases h3 with h3 | h3
      · exact .inr h3
      · exact .inl (Nat.le_of_eq h3.symm)
theorem uframe_end (xs : List Int) : uframeR xs xs.length = ([], 0, 20) := by
  have := uframe_cutAt xs [] (by simp) 0 (by rw [frameR]; have := enc_len_pos 0; simp; omega)
  simpa using this
theorem logB_take (recs : List (List Int)) (k : Nat) (r : List Int) (hk : recs[k]? = some r) : logB frameR (recs.take (k + 1)) = logB frameR (recs.take k) ++ frameR r := by
  rw [List.take_add_one, hk, logB_app]
  simp [logB]
theorem logB_split (recs : List (List Int)) (k : Nat) (r : List Int) (hk : recs[k]? = some r) : logB frameR recs = logB frameR (recs.take k) ++ (frameR r ++ logB frameR (recs.drop (k + 1))) := by
  conv => lhs; rw [← List.take_append_drop (k + 1) recs, logB_app, logB_take recs k r hk]
  rw [List.append_assoc]
theorem logB_ge (recs : List (List Int)) : ∀ k, k ≤ recs.length → k ≤ (logB frameR (recs.take k)).length
  | 0, _ => Nat.zero_le _
  | k + 1, hk => by
    rw [logB_take recs k recs[k] (List.getElem?_eq_getElem (by omega)), List.length_append]
    have h1 := logB_ge recs k (by omega)
    have h2 := framing.pos recs[k]
    omega
theorem sllit (w : World) (l : List Sl) : SRd slE (w.alloc (.cells (slE.flat l).toArray 37)) (some ⟨w.heap.size, 0, none⟩) l := by
  refine .inr ⟨w.heap.size, 0, rfl, fun j v hj => ?_⟩
  rw [Nat.zero_add, cell_of_row _ w.heap.size j _ 37 _ (heap_alloc_new w _)]
  simpa using hj
theorem wp_scope_from {P : Program} {a : Act} {w : World} {Q : Exit → Act → World → Prop} {c rest : Code} (l : Nat) (J : Act → World → Prop) (μ : Act → World → Nat) (hf : findLabel c l = some (Code.skip.seq rest))
    (pass : ∀ a w, J a w → rest.wp P (Exit.jump l (fun a' w' => J a' w' ∧ μ a' w' < μ a w) Q) a w)
    (first : (∀ a w, J a w → rest.wp P (Exit.jump l J Q) a w) → c.wp P (Exit.jump l J Q) a w) : (Code.scope c).wp P Q a w := by
  refine wp_scope_jumps l J μ hf (first fun a w hJ => ?_) fun a w hJ => wp_seq (wp_skip (pass a w hJ))
  refine Code.wp_mono (fun e a' w' q => ?_) (pass a w hJ)
  cases e with
  | goto l' => exact ⟨q.1, q.2.1⟩
  | _ => exact q
/-- What replay answers of a file's records. -/
def RecsOut (w w' : World) (v : Value) (n : Nat) (recs : List (List Int)) : Prop := ∃ ts, SOwn slE 37 w' w.heap.size v n ts ∧ RecsAt w' w.heap.size v.ownBlock ts recs ∧ n = recs.length ∧ (recs = [] → v = .slice none 0 0)
set_option maxHeartbeats 4000000 in
theorem w_replay (a : Option Addr) (zs : List Int) (L cap : Nat) (recs : List (List Int)) (tl : List Int) (w : World) (hr : Rd w a zs) (hL : zs.length = L) (hcap : L ≤ cap) (hz : L ≤ 4194304) (hs : zs = logB frameR recs ++ tl) (hlen : ∀ r ∈ recs, r.length ≤ 65536) (hend : (uframeR zs ((logB frameR recs).length : Int)).2.2 ≠ 0) (hab : ∀ x, a = some x → x.block < w.heap.size) :
    Calls Tryz.prog 190 #[.slice a L cap] w fun e w' => ∃ v n, e = .returned (.tuple #[.slice v.1 v.2.1 v.2.2, .int .i64 ((logB frameR recs).length : Int)]) ∧ RecsOut w w' (slV v) n recs ∧ w.grownBy w' none := by
  have hlogL : (logB frameR recs).length ≤ L := by rw [← hL, hs, List.length_append]; omega
  have HR : Hid (Rd w a zs) := hr
  have HAB : Hid (∀ x, a = some x → x.block < w.heap.size) := hab
  have HSP : Hid (zs = logB frameR recs ++ tl) := hs
  have HLEN : Hid (∀ r ∈ recs, r.length ≤ 65536) := hlen
  have HEND : Hid ((uframeR zs ((logB frameR recs).length : Int)).2.2 ≠ 0) := hend
  have HL : Hid (zs.length = L) := hL
  clear hr hab hs hlen hend hL
  go_enter Tryz.func190, Tryz.ntmps190
  go_wp2
  refine wp_scope_from 0 (fun a' w' => ∃ (k p : Nat) (ts : List Sl) (v4 : Sl) (u6 u7 u8 u9 u10 u11 u12 u13 u14 u15 u16 u17 u18 u19 u20 u21 u22 u23 u24 : Value), a' = { tmps := #[.slice a L cap, undef, .slice none 0 0, .int .i64 0, .slice v4.1 v4.2.1 v4.2.2, .int .i64 (p : Int), u6, u7, u8, u9, u10, u11, u12, u13, u14, u15, u16, u17, u18, u19, u20, u21, u22, u23, u24], defers := [] } ∧ p = (logB frameR (recs.take k)).length ∧ k ≤ recs.length ∧ SOwn slE 37 w' w.heap.size (slV v4) k ts ∧ RecsAt w' w.heap.size (slV v4).ownBlock ts (recs.take k) ∧ w.grownBy w' none ∧ (k = 0 → v4 = (none, 0, 0))) (fun a' _ => L + 1 - (intOf (a'.tmps.getD 5 undef)).toNat) rfl ?_ ?_
  · rintro a' w' ⟨k, p, ts, v4, u6, u7, u8, u9, u10, u11, u12, u13, u14, u15, u16, u17, u18, u19, u20, u21, u22, u23, u24, rfl, hp, hk, hso, hre, hg, hk0⟩
    go_hide hQ
    have HQQ : Hid (_ = _) := hQ
    clear hQ
    have HP : Hid (p = (logB frameR (recs.take k)).length) := hp
    have HSO : Hid (SOwn slE 37 w' w.heap.size (slV v4) k ts) := hso
    have HRE : Hid (RecsAt w' w.heap.size (slV v4).ownBlock ts (recs.take k)) := hre
    have HG : Hid (w.grownBy w' none) := hg
    have HK0 : Hid (k = 0 → v4 = (none, 0, 0)) := hk0
    clear hk0
    have HRd : Hid (Rd w' a zs) := HR.out.grown hg (by simp)
    obtain ⟨va, vn, vc⟩ := v4
    dsimp only
    have hpL : p ≤ L := by
      rw [hp]
      refine Nat.le_trans ?_ hlogL
      conv => rhs; rw [← List.take_append_drop k recs, logB_app, List.length_append]
      omega
    clear hp hso hre hg
    by_cases hlt : k < recs.length
    · obtain ⟨r, hrk⟩ : ∃ r, recs[k]? = some r := ⟨_, List.getElem?_eq_getElem hlt⟩
      have hrl := HLEN.out r (List.mem_of_getElem? hrk)
      have hfp := framing.pos r
      have HT : Hid (logB frameR (recs.take (k + 1)) = logB frameR (recs.take k) ++ frameR r) := logB_take recs k r hrk
      have HTK : Hid (recs.take (k + 1) = recs.take k ++ [r]) := by show _ = _; rw [List.take_add_one, hrk]; rfl
      have HU : Hid (uframeR zs (p : Int) = (r, ((p + (frameR r).length : Nat) : Int), 0)) := by
        show _ = _
        rw [uframeR_at (logB frameR (recs.take k)) (logB frameR (recs.drop (k + 1)) ++ tl) r hrl zs (by rw [HSP.out, logB_split recs k r hrk]; simp [List.append_assoc]) (p : Int) (by rw [HP.out])]
        rw [HP.out]
        simp
      have HUN : Hid (Calls Tryz.prog 200 #[.slice a L cap, .int .i64 (p : Int)] w' fun e w'' => ∃ v N c, e = .returned (.tuple #[.slice v N c, .int .i64 ((p + (frameR r).length : Nat) : Int), .int .i64 0]) ∧ Out w' w'' v N c r ∧ w'.grownBy w'' none) := f_unframe a zs L cap (p : Int) r _ 0 w' HRd.out HL.out hcap (by omega) HU.out
      obtain ⟨q, eq⟩ : ∃ q, q = p + (frameR r).length := ⟨_, rfl⟩
      rw [← eq] at HUN
      have hqp : p < q := by omega
      have HQ : Hid (q = (logB frameR (recs.take (k + 1))).length) := by show _ = _; rw [HT.out, List.length_append, ← HP.out, eq]
      clear eq hrk HU HT
      go_wp2_with fail
      refine HUN.out.mono ?_
      rintro e w2 ⟨rv, RN, rc, rfl, hout, hg2⟩
      have HOUT : Hid (Out w' w2 rv RN rc r) := hout
      have HG2 : Hid (w'.grownBy w2 none) := hg2
      have hsz : w.heap.size ≤ w2.heap.size + 1 := by have h1 := HG.out.size; have h2 := hg2.size; omega
      have hk2 : k ≤ 4194304 := by
        have h1 : k ≤ p := by rw [HP.out]; exact logB_ge recs k (by omega)
        omega
      have HSO2 : Hid (SOwn slE 37 (w2.alloc (.cells #[.slice rv RN rc] 37)) w.heap.size (slV (va, vn, vc)) k ts) := SOwn.kept HSO.out (hg2.trans (World.grownBy_alloc w2 _ none)) (by cases va <;> simp [slV, Value.ownBlock])
      clear hout hg2 HUN
      go_wp2_with (at_builtin; refine wpList_append_t slET rfl (.tmp 20) (.tmp 22) rfl w.heap.size (slV (va, vn, vc)) k ts rfl HSO2.out ⟨w2.heap.size, 0, none⟩ [(rv, RN, rc)] 1 1 rfl rfl (sllit w2 [(rv, RN, rc)]) (by omega) (by omega) (by unfold maxLen; omega) (by rw [show ((w2.alloc (.cells #[.slice rv RN rc] 37)).heap.size) = w2.heap.size + 1 from Array.size_push _]; exact hsz) ?_; intro g3 k3 w3 ho3 hg3 hgg; have HO3 : Hid (SOwn slE 37 w3 w.heap.size (.slice (some ⟨g3, 0, none⟩) (k + 1) k3) (k + 1) (ts ++ [(rv, RN, rc)])) := ho3; have HG3 : Hid ((w2.alloc (.cells #[.slice rv RN rc] 37)).grownBy w3 (Value.ownBlock (slV (va, vn, vc)))) := hg3; have HGG : Hid (Value.ownBlock (slV (va, vn, vc)) = some g3 ∨ g3 = (w2.alloc (.cells #[.slice rv RN rc] 37)).heap.size) := hgg; clear ho3 hg3 hgg)
      go_step3
      rw [← HQQ.out]
      refine ⟨rfl, ⟨k + 1, q, ts ++ [(rv, RN, rc)], (some ⟨g3, 0, none⟩, k + 1, k3), _, _, _, _, _, _, _, _, _, _, _, _, _, _, _, _, _, _, _, rfl, HQ.out, by omega, HO3.out, ?_, ?_, fun h => by omega⟩, ?_⟩
      · rw [HTK.out]
        have hal := World.grownBy_alloc w2 (.cells #[.slice rv RN rc] 37) none
        have hbl := HSO.out.block
        have hsa : (w2.alloc (.cells #[.slice rv RN rc] 37)).heap.size = w2.heap.size + 1 := Array.size_push _
        have ho : ∀ k', (slV (some ⟨g3, 0, none⟩, k + 1, k3)).ownBlock = some k' → (w2.alloc (.cells #[.slice rv RN rc] 37)).heap.size ≤ k' ∨ (slV (va, vn, vc)).ownBlock = some k' := fun k' hk => by
          have e : g3 = k' := Option.some.inj hk
          subst e
          rcases HGG.out with h | h
          · exact .inr h
          · exact .inl (Nat.le_of_eq h.symm)
        refine RecsAt.app ((HRE.out.kept (HG2.out.trans hal) (fun k hk => by cases hk)).step HG3.out ho) ⟨?_, trivial⟩
        obtain ⟨o1, o2, o3, o4, o5⟩ := HOUT.out
        refine ⟨o1.symm, by rw [o1]; exact o4, o3, ?_, ?_⟩
        · refine rd_block o2 (fun hr x hx => ?_)
          have hx' : rv = some x := hx
          have hlt2 := rd_lt (hx' ▸ o2) hr
          rw [HG3.out.block x.block (by omega) (fun e => by have h1 := (hbl _ e.symm).2; have h2 := o5 x hx; omega)]
          exact hal.block x.block hlt2 (by simp)
        · intro hr x hx
          have hx' : rv = some x := hx
          have hlt2 := rd_lt (hx' ▸ o2) hr
          refine ⟨Nat.le_trans HG.out.size (o5 x hx), fun e => ?_⟩
          have e' : x.block = g3 := Option.some.inj e
          rcases HGG.out with h | h
          · have h1 := (hbl _ h).2
            have h2 := o5 x hx
            omega
          · omega
      · exact gb_trans (gb_trans (HG.out.trans HG2.out) (World.grownBy_alloc w2 _ none) (fun k hk => by cases hk)) HG3.out (fun k hk => .inl (HSO.out.block k hk).1)
      · simp [intOf]
        omega
    · have hkk : k = recs.length := by omega
      subst hkk
      have hpe : p = (logB frameR recs).length := by rw [HP.out, List.take_length]
      obtain ⟨⟨x1, x2, x3⟩, ex⟩ : ∃ t, uframeR zs (p : Int) = t := ⟨_, rfl⟩
      have hx3 : (x3 != 0) = true := by
        have := HEND.out
        rw [← hpe, ex] at this
        simpa using this
      have HUN : Hid (Calls Tryz.prog 200 #[.slice a L cap, .int .i64 (p : Int)] w' fun e w'' => ∃ v N c, e = .returned (.tuple #[.slice v N c, .int .i64 x2, .int .i64 x3]) ∧ Out w' w'' v N c x1 ∧ w'.grownBy w'' none) := f_unframe a zs L cap (p : Int) x1 x2 x3 w' HRd.out HL.out hcap (by omega) ex
      have HPE : Hid (p = (logB frameR recs).length) := hpe
      clear ex hpe
      go_wp2_with fail
      refine HUN.out.mono ?_
      rintro e w2 ⟨rv, RN, rc, rfl, hout, hg2⟩
      have HG2 : Hid (w'.grownBy w2 none) := hg2
      clear hout hg2 HUN
      go_wp2
      rw [← HQQ.out]
      simp only [Exit.jump]
      go_ret2
      refine ⟨(va, vn, vc), recs.length, by rw [← HPE.out]; rfl, ⟨ts, SOwn.kept HSO.out HG2.out (by cases va <;> simp [slV, Value.ownBlock]), ?_, rfl, fun h => by have := HK0.out (by rw [h]; rfl); rw [this]; rfl⟩, HG.out.trans HG2.out⟩
      have := HRE.out
      rw [List.take_length] at this
      exact this.kept HG2.out (fun k hk => by cases hk)
  · intro go_on
    go_wp2
    go_step3
    refine ‹∀ (a : Act) (w : World), Code.wp Tryz.prog _ _ a w → _› _ _ (go_on _ _ ?_)
    exact ⟨0, 0, [], (none, 0, 0), _, _, _, _, _, _, _, _, _, _, _, _, _, _, _, _, _, _, _, rfl, rfl, Nat.zero_le _, SOwn.nil 37 _ _, trivial, World.grownBy.refl _ _, fun _ => rfl⟩
end Go.Proofs.YtgpgkpciajajcaaGreatDoor

/- Package wal: replayFile: the records of one file. -/
namespace Go.Proofs.YtgpgkpciajajcaaGreatDoor
open Go.RowKit Go.Maps Go.Sort
set_option linter.unusedVariables false
set_option maxRecDepth 20000

/-- A file whose bytes are the frames of these records, and something behind them. -/
structure FileRecs (zs : List Int) (recs : List (List Int)) (tl : List Int) : Prop where
  split : zs = logB frameR recs ++ tl
  len : ∀ r ∈ recs, r.length ≤ 65536
  stop : (uframeR zs ((logB frameR recs).length : Int)).2.2 ≠ 0
theorem FileRecs.whole (recs : List (List Int)) (h : ∀ r ∈ recs, r.length ≤ 65536) : FileRecs (logB frameR recs) recs [] :=
  ⟨by simp, h, by rw [uframe_end]; decide⟩
theorem FileRecs.torn (recs : List (List Int)) (r : List Int) (i : Nat) (h : ∀ r ∈ recs, r.length ≤ 65536) (hr : r.length ≤ 65536) (hi : i < (frameR r).length) : FileRecs (logB frameR recs ++ (frameR r).take i) recs ((frameR r).take i) :=
  ⟨rfl, h, by rw [uframe_cutAt _ r hr i hi]; decide⟩
theorem sown_cap {α : Type} {E : Elem α} {e : TypeId} {w : World} {base n c : Nat} {a : Option Addr} {l : List α} (h : SOwn E e w base (.slice a n c) n l) : n ≤ c ∧ (a = none → c = 0) := by
  rcases h.2 with ⟨h', h0⟩ | ⟨g, cap, cur, h', h1, h2, h3, _⟩
  · simp only [Value.slice.injEq] at h'
    omega
  · simp only [Value.slice.injEq] at h'
    obtain ⟨rfl, _, rfl⟩ := h'
    exact ⟨h3, fun e => by cases e⟩
theorem sown_max {α : Type} {E : Elem α} {e : TypeId} {w : World} {base n c : Nat} {a : Option Addr} {l : List α} (h : SOwn E e w base (.slice a n c) n l) : c ≤ 9223372036854775807 := by
  rcases h.2 with ⟨h', h0⟩ | ⟨g, cap, cur, h', h1, h2, h3, h4, _⟩
  · simp only [Value.slice.injEq] at h'
    omega
  · simp only [Value.slice.injEq] at h'
    obtain ⟨rfl, _, rfl⟩ := h'
    unfold maxLen at h4
    omega
theorem head_of (w : World) (a : Option Addr) (M C E : Nat) (h : E ≤ C) (hC : C ≤ 9223372036854775807) : (Instr.slice 37 (.slice a M C) none (some (.int .i64 (E : Int))) none).run Tryz.prog w = .ok (.slice a E C) w := by
  rw [run_slice_h w 37 _ M C (by rw [elem27]; exact Tryz.underlying37) .i64 (E : Int) (by omega) (by omega), elem27, sz5]
  cases a with
  | none => simp [sliced, Result.andThen]
  | some y => simp [sliced, Result.andThen, Addr.add]
theorem rd_head {w : World} {a : Option Addr} {xs ys : List Int} (h : Rd w a (xs ++ ys)) : Rd w a xs := by
  refine ⟨?_, fun z hz => h.2 z (List.mem_append.2 (.inl hz))⟩
  rcases h.1 with h1 | ⟨b, off, e, hc⟩
  · exact .inl (List.append_eq_nil_iff.1 h1).1
  · refine .inr ⟨b, off, e, fun i hi => ?_⟩
    rw [hc i (by rw [List.length_append]; omega)]
    simp [List.getD_eq_getElem?_getD, List.getElem?_append_left hi]
theorem RecsOut.lower {w0 w w' : World} {v : Value} {n : Nat} {recs : List (List Int)} (h : RecsOut w w' v n recs) (hl : w0.heap.size ≤ w.heap.size) : RecsOut w0 w' v n recs := by
  obtain ⟨ts, h1, h2, h3⟩ := h
  exact ⟨ts, h1.base hl, h2.turn hl (fun k hk => .inr (.inr hk)), h3⟩
theorem RecsOut.grown {w w' w2 : World} {v : Value} {n : Nat} {recs : List (List Int)} (h : RecsOut w w' v n recs) (hg : w'.grownBy w2 none) : RecsOut w w2 v n recs := by
  obtain ⟨ts, h1, h2, h3⟩ := h
  exact ⟨ts, SOwn.kept h1 hg (by rcases hh : v.ownBlock with _ | k; exact .inl rfl; exact .inr (by simp)), h2.kept hg (fun k hk => by cases hk), h3⟩
set_option maxHeartbeats 4000000 in
theorem w_replayFile (base p d mb n : Nat) (dir cp : ByteArray) (v : Value) (op : Int) (x : DSt) (B : Nat → Prop) (s : ByteArray) (zs : List Int) (syn : Nat) (recs : List (List Int)) (tl : List Int) (w : World) (h : WRow w p d dir cp v op) (hd : DS w base d mb n x B) (hon : x.off = false) (hnm : nameB s = true) (hV : x.V s = some (zs, syn)) (hf : FileRecs zs recs tl) :
    Calls Tryz.prog 172 #[.pointer (some ⟨p, 0, none⟩), .string s] w fun e w' => ∃ v a c N, e = .returned (.tuple #[slV v, .slice a (logB frameR recs).length c, .bool (decide (tl ≠ []))]) ∧ RecsOut w w' (slV v) N recs ∧ Out w w' a (logB frameR recs).length c (logB frameR recs) ∧ w.grownBy w' none := by
  obtain ⟨c0, c1, c2, c3, c4⟩ := h.cells
  have HRD := x_read base d mb n x B s w hd hnm
  have e1 : x.read s = (zs, 0) := by unfold DSt.read; rw [hon, hV]; rfl
  rw [e1] at HRD
  have HRD : Hid (Calls Tryz.prog 133 #[.pointer (some ⟨d, 0, none⟩), .string s] w fun e w' => ∃ a c, e = .returned (.tuple #[.slice a zs.length c, .int .i64 0]) ∧ SOwn byteE 5 w' w.heap.size (.slice a zs.length c) zs.length zs ∧ (∀ z ∈ zs, 0 ≤ z ∧ z ≤ 255) ∧ zs.length ≤ 4194304 ∧ w.grownBy w' none) := HRD
  have HF : Hid (FileRecs zs recs tl) := hf
  have hlogL : (logB frameR recs).length ≤ zs.length := by rw [hf.split, List.length_append]; omega
  have HD0 := fun w => w_done0 w
  obtain ⟨L, eL⟩ : ∃ L, L = zs.length := ⟨_, rfl⟩
  obtain ⟨E, eE⟩ : ∃ E, E = (logB frameR recs).length := ⟨_, rfl⟩
  have EL : Hid (L = zs.length) := eL
  have EE : Hid (E = (logB frameR recs).length) := eE
  rw [← eL] at HRD
  rw [← eE, ← eL] at hlogL
  have HTL : Hid (decide (tl ≠ []) = decide (E < L)) := by
    show _ = _
    have h1 : L = E + tl.length := by rw [eL, eE, hf.split, List.length_append]
    cases tl with
    | nil => simp at h1; simp [h1]
    | cons _ _ => simp at h1; simp; omega
  clear h hd hf eL eE hV e1 c1 c2 c3 c4
  go_enter Tryz.func172, Tryz.ntmps172
  go_wp2_with fail
  refine HRD.out.mono ?_
  rintro e w1 ⟨a, c, rfl, hso, hby, hl4, hg1⟩
  have HG1 : Hid (w.grownBy w1 none) := hg1
  have HSO : Hid (SOwn byteE 5 w1 w.heap.size (.slice a L c) L zs) := hso
  have HRd : Hid (Rd w1 a zs) := srd_rd hso.rd hby
  have HCP : Hid (L ≤ c ∧ (a = none → c = 0)) := sown_cap hso
  have HCM : Hid (c ≤ 9223372036854775807) := sown_max hso
  have HRP : Hid (Calls Tryz.prog 190 #[.slice a L c] w1 fun e w' => ∃ v n, e = .returned (.tuple #[.slice v.1 v.2.1 v.2.2, .int .i64 ((logB frameR recs).length : Int)]) ∧ RecsOut w1 w' (slV v) n recs ∧ w1.grownBy w' none) := w_replay a zs L c recs tl w1 HRd.out EL.out.symm HCP.out.1 hl4 HF.out.split HF.out.len HF.out.stop (fun x hx => by subst hx; exact (hso.block _ rfl).2)
  rw [← EE.out] at HRP
  clear hso hby hl4 hg1 HRD
  go_wp2_with fail
  refine (HD0 _).mono ?_
  rintro e w2 ⟨rfl, rfl⟩
  go_wp2_with fail
  refine HRP.out.mono ?_
  rintro e w3 ⟨rv, RN, rfl, hro, hg3⟩
  have HRO : Hid (RecsOut w1 w3 (slV rv) RN recs) := hro
  have HG3 : Hid (w1.grownBy w3 none) := hg3
  have hsl : ∀ W : World, (Instr.slice 37 (.slice a L c) none (some (.int .i64 (E : Int))) none).run Tryz.prog W = .ok (.slice a E c) W := fun W => head_of W a L c E (by have := HCP.out.1; omega) HCM.out
  clear hro hg3 HRP
  go_wp2
  go_region
  all_goals go_wp2
  all_goals go_ret3
  all_goals refine ⟨rv, a, c, RN, ?_, ?_, ?_, gb_drewR (HG1.out.trans HG3.out) _⟩
  all_goals first
    | (rw [← EE.out, HTL.out]; rfl)
    | exact RecsOut.grown (HRO.out.lower HG1.out.size) (gb_drewR (World.grownBy.refl _ _) _)
    | (rw [← EE.out]; exact ⟨EE.out.symm, rd_block (rd_head (HF.out.split ▸ HRd.out)) (fun hr x hx => ((gb_drewR HG3.out _).block x.block (rd_lt (hx ▸ rd_head (HF.out.split ▸ HRd.out)) hr) (by simp))), HCP.out.2, Nat.le_trans hlogL HCP.out.1, fun x hx => by subst hx; exact (HSO.out.block _ rfl).1⟩)
end Go.Proofs.YtgpgkpciajajcaaGreatDoor

/- Package wal: replayAll, of files that are whole. -/
namespace Go.Proofs.YtgpgkpciajajcaaGreatDoor
open Go.RowKit Go.Maps Go.Sort
set_option linter.unusedVariables false
set_option maxRecDepth 20000

/-- The segments' files are whole: number and records of each. -/
def Whole (V : Cont) (dir : ByteArray) (L : List (Nat × List (List Int))) : Prop := ∀ q ∈ L, (∃ syn, V (segN dir q.1) = some (logB frameR q.2, syn)) ∧ (∀ r ∈ q.2, r.length ≤ 65536) ∧ q.1 < 100000000
def recsOf (L : List (Nat × List (List Int))) : List (List Int) := L.flatMap Prod.snd
/-- The checkpoint: none, or one that is whole. -/
def CpIs (V : Cont) (dir cp : ByteArray) : Option (Nat × List (List Int)) → Prop
  | none => cp = ⟨#[]⟩
  | some q => cp = cpN dir q.1 ∧ (∃ syn, V (cpN dir q.1) = some (logB frameR q.2, syn)) ∧ (∀ r ∈ q.2, r.length ≤ 65536) ∧ q.1 < 100000000
def cpRecs : Option (Nat × List (List Int)) → List (List Int)
  | none => []
  | some q => q.2
theorem recsOf_take (L : List (Nat × List (List Int))) (i : Nat) (q : Nat × List (List Int)) (h : L[i]? = some q) : recsOf (L.take (i + 1)) = recsOf (L.take i) ++ q.2 := by
  unfold recsOf
  rw [List.take_add_one, h, List.flatMap_append]
  simp
/-- What replayAll has gathered. -/
structure AllAt (w0 w : World) (v : Sl) (recs : List (List Int)) : Prop where
  out : ∃ n, RecsOut w0 w (slV v) n recs
  grown : w0.grownBy w none
def AllOut (w : World) (recs : List (List Int)) (e : Ending) (w' : World) : Prop := ∃ v : Sl, e = .returned (slV v) ∧ AllAt w w' v recs
set_option maxHeartbeats 8000000 in
theorem w_replayAll (base p d mb n : Nat) (dir cp : ByteArray) (a : Option Addr) (c : Nat) (op : Int) (x : DSt) (B : Nat → Prop) (K : Option (Nat × List (List Int))) (Ls : List (Nat × List (List Int))) (w : World) (hdir : dirB dir = true) (ht : Tab w) (h : WRow w p d dir cp (.slice a Ls.length c) op) (hr : SRd intE w a (nI (Ls.map Prod.fst))) (hd : DS w base d mb n x B) (hon : x.off = false) (hK : CpIs x.V dir cp K) (hW : Whole x.V dir Ls) (hsz : (cpRecs K ++ recsOf Ls).length ≤ 4194304) (hln : Ls.length ≤ 4194304) :
    Calls Tryz.prog 152 #[.pointer (some ⟨p, 0, none⟩)] w (AllOut w (cpRecs K ++ recsOf Ls)) := by
  have hds : dir.size ≤ 32 := by simp only [dirB, Bool.and_eq_true, decide_eq_true_eq] at hdir; exact hdir.2
  obtain ⟨c0, c1, c2, c3, c4⟩ := h.cells
  have HT : Hid (Tab w) := ht
  have HW : Hid (WRow w p d dir cp (.slice a Ls.length c) op) := h
  have HR : Hid (SRd intE w a (nI (Ls.map Prod.fst))) := hr
  have HD : Hid (DS w base d mb n x B) := hd
  have HWH : Hid (Whole x.V dir Ls) := hW
  have HDIR : Hid (dirB dir = true) := hdir
  have HSZ : Hid ((cpRecs K ++ recsOf Ls).length ≤ 4194304) := hsz
  have HCP : Hid (CpIs x.V dir cp K) := hK
  obtain ⟨NL, eNL⟩ : ∃ NL, NL = Ls.length := ⟨_, rfl⟩
  have ENL : Hid (NL = Ls.length) := eNL
  rw [← eNL] at c3 hln
  clear hK h hr hd hW hdir ht hsz eNL c0 c1 c4
  go_enter Tryz.func152, Tryz.ntmps152
  go_upto_if 16 with fail
  go_cut [3] from 12 (fun t3 wc => ∃ v1 : Sl, t3 = .slice v1.1 v1.2.1 v1.2.2 ∧ AllAt w wc v1 (cpRecs K))
  case first =>
    cases K with
    | none =>
      have hcp : cp = ⟨#[]⟩ := HCP.out
      subst hcp
      have q0 : (ByteArray.toList ⟨#[]⟩).isEmpty = true := by rw [str_none]; rfl
      rw [q0, Bool.not_true]
      go_wp2_with fail
      go_meet
      exact ⟨(none, 0, 0), rfl, ⟨0, [], SOwn.nil 37 _ _, trivial, rfl, fun _ => rfl⟩, World.grownBy.refl _ _⟩
    | some q =>
      obtain ⟨hcp, ⟨syn, hV⟩, hlen, hq8⟩ := HCP.out
      subst hcp
      have q0 : (cpN dir q.1).toList.isEmpty = false := by
        rw [str_none]
        simp only [decide_eq_false_iff_not]
        intro e
        have := congrArg ByteArray.size e
        rw [cpN, bN_size] at this
        simp [d8_len] at this
        have h2 : ByteArray.size ⟨#[]⟩ = 0 := rfl
        omega
      have HRF : Hid (Calls Tryz.prog 172 #[.pointer (some ⟨p, 0, none⟩), .string (cpN dir q.1)] w fun e w' => ∃ v a c N, e = .returned (.tuple #[slV v, .slice a (logB frameR q.2).length c, .bool (decide (([] : List Int) ≠ []))]) ∧ RecsOut w w' (slV v) N q.2 ∧ Out w w' a (logB frameR q.2).length c (logB frameR q.2) ∧ w.grownBy w' none) := w_replayFile base p d mb n dir (cpN dir q.1) _ op x B (cpN dir q.1) _ syn q.2 [] w HW.out HD.out hon (cp_name HDIR.out q.1) hV (FileRecs.whole q.2 hlen)
      rw [show decide (([] : List Int) ≠ []) = false from rfl] at HRF
      rw [q0, Bool.not_false]
      go_wp2_with fail
      refine HRF.out.mono ?_
      rintro e w1 ⟨v1, a1, k1, N1, rfl, hro, _, hg1⟩
      have HRO : Hid (RecsOut w w1 (slV v1) N1 q.2) := hro
      have HG1 : Hid (w.grownBy w1 none) := hg1
      clear hro hg1 HRF
      unfold slV
      go_wp2_with fail
      go_meet
      exact ⟨v1, rfl, ⟨N1, HRO.out⟩, HG1.out⟩
  case rest =>
    obtain ⟨v1, rfl, hA⟩ := hcut
    have HA : Hid (AllAt w wc v1 (cpRecs K)) := hA
    have c3' := (HW.out.kept hA.grown (by simp)).cells.2.2.2.1
    rw [← ENL.out] at c3'
    clear hA c3
    go_wp2_with fail
    go_loopw [3, 47] (fun t3 t47 wr => ∃ (i : Nat) (v : Sl), i ≤ NL ∧ t47 = .int .i64 i ∧ t3 = .slice v.1 v.2.1 v.2.2 ∧ AllAt w wr v (cpRecs K ++ recsOf (Ls.take i))) (fun _ t47 _ => NL - (intOf t47).toNat)
    case atStart => exact ⟨0, v1, Nat.zero_le _, rfl, rfl, by simpa [recsOf] using HA.out⟩
    case round =>
      obtain ⟨i, v, hi, rfl, rfl, hA2⟩ := hrel
      have HA2 : Hid (AllAt w wr v (cpRecs K ++ recsOf (Ls.take i))) := hA2
      have hg := hA2.grown
      have HG : Hid (w.grownBy wr none) := hg
      have HWr : Hid (WRow wr p d dir cp (.slice a Ls.length c) op) := HW.out.kept hg (by simp)
      have HTr : Hid (Tab wr) := HT.out.grown hg
      have HDr : Hid (DS wr base d mb n x B) := DV.kept HD.out hg
      have HRr : Hid (SRd intE wr a (nI (Ls.map Prod.fst))) := HR.out.grown hg (by simp)
      clear hA2 hg HA
      obtain ⟨va, vn, vc⟩ := v
      by_cases hlt : i < NL
      · have hii : (i : Int) < (NL : Int) := by omega
        obtain ⟨q, hq⟩ : ∃ q, Ls[i]? = some q := ⟨_, List.getElem?_eq_getElem (by rw [← ENL.out]; exact hlt)⟩
        obtain ⟨⟨syn, hV⟩, hlen, hq8⟩ := HWH.out q (List.mem_of_getElem? hq)
        obtain ⟨b, off, rfl, hcell⟩ := nI_cell HRr.out (l := Ls.map Prod.fst) (i := i) (k := q.1) (by rw [List.getElem?_map, hq]; rfl)
        have HTK := recsOf_take Ls i q hq
        have HSG : Hid (Calls Tryz.prog 105 #[.pointer (some ⟨p, 0, none⟩), .int .i64 (q.1 : Int)] wr fun e w' => e = .returned (.string (segN dir q.1)) ∧ wr.grownBy w' none) := w_segment p d dir cp _ op q.1 hq8 wr (by omega) HTr.out HWr.out
        clear hq
        dsimp only
        go_wp2_with fail
        refine HSG.out.mono ?_
        rintro e w2 ⟨rfl, hg2⟩
        have HG2 : Hid (wr.grownBy w2 none) := hg2
        have HRF : Hid (Calls Tryz.prog 172 #[.pointer (some ⟨p, 0, none⟩), .string (segN dir q.1)] w2 fun e w' => ∃ v a c N, e = .returned (.tuple #[slV v, .slice a (logB frameR q.2).length c, .bool (decide (([] : List Int) ≠ []))]) ∧ RecsOut w2 w' (slV v) N q.2 ∧ Out w2 w' a (logB frameR q.2).length c (logB frameR q.2) ∧ w2.grownBy w' none) := w_replayFile base p d mb n dir cp _ op x B (segN dir q.1) _ syn q.2 [] w2 (HWr.out.kept hg2 (by simp)) (DV.kept HDr.out hg2) hon (seg_name HDIR.out q.1) hV (FileRecs.whole q.2 hlen)
        rw [show decide (([] : List Int) ≠ []) = false from rfl] at HRF
        clear hg2 HSG
        go_wp2_with fail
        refine HRF.out.mono ?_
        rintro e w3 ⟨v3, a3, k3, N3, rfl, hro, _, hg3⟩
        obtain ⟨ts3, ho3, hr3, hn3, hz3⟩ := hro
        obtain ⟨n1, ts1, ho1, hr1, hn1, hz1⟩ := HA2.out.out
        obtain ⟨v3a, v3n, v3c⟩ := v3
        unfold slV at ho3 hr3 hz3 ho1 hr1 hz1 ⊢
        dsimp only at ho3 hr3 hz3 ho1 hr1 hz1 ⊢
        obtain ⟨_, _, e3⟩ := sownSl ho3
        obtain ⟨_, _, e1⟩ := sownSl ho1
        obtain rfl : v3n = N3 := by injection e3
        obtain rfl : vn = n1 := by injection e1
        have HG23 : Hid (wr.grownBy w3 none) := HG2.out.trans hg3
        have HO1 : Hid (SOwn slE 37 w3 w.heap.size (.slice va vn vc) vn ts1) := SOwn.kept ho1 HG23.out (by cases va <;> simp [Value.ownBlock])
        have HB1 : Hid (∀ k, Value.ownBlock (.slice va vn vc) = some k → k < wr.heap.size) := fun k hk => (ho1.block k hk).2
        have HO3 : Hid (SOwn slE 37 w3 w2.heap.size (.slice v3a v3n v3c) v3n ts3) := ho3
        have HR1 : Hid (RecsAt wr w.heap.size (Value.ownBlock (.slice va vn vc)) ts1 (cpRecs K ++ recsOf (Ls.take i))) := hr1
        have HR3 : Hid (RecsAt w3 w2.heap.size (Value.ownBlock (.slice v3a v3n v3c)) ts3 q.2) := hr3
        have HL3 : Hid (ts3.length = v3n) := ho3.len
        have HN3 : Hid (v3n = q.2.length ∧ vn = (cpRecs K ++ recsOf (Ls.take i)).length) := ⟨hn3, hn1⟩
        have HZ3 : Hid (v3n = 0 → v3a = none ∧ v3c = 0) := fun h => by
          have h1 : q.2 = [] := List.eq_nil_of_length_eq_zero (by rw [← hn3]; exact h)
          have h2 := hz3 h1
          injection h2 with h3 h4 h5
          exact ⟨h3, h5⟩
        have HZ1 : Hid ((cpRecs K ++ recsOf (Ls.take i)) = [] → va = none ∧ vc = 0) := fun h => by
          have h2 := hz1 h
          injection h2 with h3 h4 h5
          exact ⟨h3, h5⟩
        have hsum : vn + v3n ≤ 4194304 := by
          have h1 := HSZ.out
          have h2 : (cpRecs K ++ recsOf (Ls.take (i + 1))).length ≤ (cpRecs K ++ recsOf Ls).length := by
            conv => rhs; rw [← List.take_append_drop (i + 1) Ls]
            unfold recsOf
            rw [List.flatMap_append]
            simp
          rw [HTK] at h2
          rw [hn3, hn1]
          simp at h1 h2 ⊢
          omega
        have hwsz : w.heap.size ≤ w3.heap.size := Nat.le_trans HG.out.size HG23.out.size
        clear ho3 hr3 hz3 ho1 hr1 hz1 hg3 hn3 hn1 e1 e3 HRF
        go_wp2_with (at_builtin; refine wpList_append_u slET rfl (.tmp 61) (.tmp 62) rfl w.heap.size va vc vn ts1 rfl HO1.out v3a ts3 v3n v3c rfl HL3.out HO3.out.rd HZ3.out (by omega) (by unfold maxLen; omega) hwsz ?_; intro va' vc' w4 ho4 hg4 hk4 hz4; have HO4 : Hid (SOwn slE 37 w4 w.heap.size (.slice va' (vn + v3n) vc') (vn + v3n) (ts1 ++ ts3)) := ho4; have HG4 : Hid (w3.grownBy w4 (Value.ownBlock (.slice va vn vc))) := hg4; have HK4 : Hid (∀ k, Value.ownBlock (.slice va' (vn + v3n) vc') = some k → w3.heap.size ≤ k ∨ Value.ownBlock (.slice va vn vc) = some k) := hk4; have HZ4 : Hid (v3n = 0 → va' = va ∧ vc' = vc) := hz4; clear ho4 hg4 hk4 hz4)
        go_roundw
        case rel =>
          refine ⟨i + 1, (va', vn + v3n, vc'), by omega, by go_num, rfl, ⟨vn + v3n, ts1 ++ ts3, HO4.out, ?_, ?_, ?_⟩, ?_⟩
          · rw [HTK, ← List.append_assoc]
            have h1 := (HR1.out.kept HG23.out (fun k hk => by cases hk)).step HG4.out HK4.out
            have hb : ∀ k, Value.ownBlock (.slice va vn vc) = some k → k < w2.heap.size := fun k hk => Nat.lt_of_lt_of_le (HB1.out k hk) HG2.out.size
            have h3 : RecsAt w3 w2.heap.size (Value.ownBlock (.slice va vn vc)) ts3 q.2 := HR3.out.turn (Nat.le_refl _) (fun k hk => .inr (.inl (hb k hk)))
            have h4 := (h3.step HG4.out HK4.out).turn (o' := Value.ownBlock (.slice va' (vn + v3n) vc')) (Nat.le_trans HG.out.size HG2.out.size) (fun k hk => .inr (.inr hk))
            exact RecsAt.app h1 h4
          · rw [HTK, ← List.append_assoc, List.length_append, ← HN3.out.1, ← HN3.out.2]
          · intro he
            rw [HTK, ← List.append_assoc] at he
            obtain ⟨he1, he2⟩ := List.append_eq_nil_iff.1 he
            have h0 : v3n = 0 := by rw [HN3.out.1, he2]; rfl
            have h1 : vn = 0 := by rw [HN3.out.2, he1]; rfl
            obtain ⟨e1, e2⟩ := HZ4.out h0
            obtain ⟨e3, e4⟩ := HZ1.out he1
            show Value.slice va' (vn + v3n) vc' = _
            rw [e1, e2, e3, e4, h0, h1]
          · exact gb_trans (HG.out.trans HG23.out) HG4.out (fun k hk => .inl (HO1.out.block k hk).1)
        case measure => simp [intOf]; omega
      · have hii : ¬ (i : Int) < (NL : Int) := by omega
        have HEQ : Hid (cpRecs K ++ recsOf (Ls.take i) = cpRecs K ++ recsOf Ls) := by show _ = _; rw [List.take_of_length_le (by rw [← ENL.out]; omega)]
        go_wp2
        go_ret
        exact ⟨(va, vn, vc), rfl, HEQ.out ▸ HA2.out⟩
end Go.Proofs.YtgpgkpciajajcaaGreatDoor

