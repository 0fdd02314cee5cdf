/- Several texts in one: Xd, Xe. -/
import Derived.Test.YtekejnjaiccnbaaGreatDoorXc
/- A log that is written and opened, again and again. -/
namespace Go.Proofs.YtekejnjaiccnbaaGreatDoor
open Go.RowKit Go.Maps Go.Sort
set_option linter.unusedVariables false
set_option maxRecDepth 20000

theorem addL_len (K : Kp) (Ls : Sg) (r : List Int) : (addL K Ls r).length ≤ Ls.length + 1 := by
  unfold addL
  cases h : Ls.getLast? with
  | none => simp
  | some q =>
    dsimp only
    split
    · simp
    · simp only [List.length_append, List.length_dropLast, List.length_cons, List.length_nil]
      omega
theorem rollX_le (x : DSt) (dir : ByteArray) (op : Nat) : (rollX x dir op).2 ≤ op + 1 := by
  unfold rollX
  split
  · exact Nat.le_succ _
  · split
    · exact Nat.le_refl _
    · exact Nat.le_succ _
/-- Slices that hold records in the world W. -/
def ToldIn (W : World) (tt : List Sl) (rs : List (List Int)) : Prop := tt.length = rs.length ∧ ∀ (i : Nat) (t : Sl) (r : List Int), tt[i]? = some t → rs[i]? = some r → t.2.1 = r.length ∧ Rd W t.1 r ∧ r.length ≤ 140737488355000
theorem ToldIn.add {W : World} {tt : List Sl} {rs : List (List Int)} (h : ToldIn W tt rs) (t : Sl) (r : List Int) (h1 : t.2.1 = r.length) (h2 : Rd W t.1 r) (h3 : r.length ≤ 140737488355000) : ToldIn W (tt ++ [t]) (rs ++ [r]) := by
  refine ⟨by simp [h.1], fun i t' r' ht hr => ?_⟩
  rcases Nat.lt_or_ge i tt.length with hi | hi
  · rw [List.getElem?_append_left hi] at ht
    rw [List.getElem?_append_left (by rw [← h.1]; exact hi)] at hr
    exact h.2 i t' r' ht hr
  · rw [List.getElem?_append_right hi] at ht
    rw [List.getElem?_append_right (by rw [← h.1]; exact hi)] at hr
    have h0 : i - tt.length = 0 := by
      have := (List.getElem?_eq_some_iff.1 ht).1
      simp at this
      omega
    rw [h0] at ht
    rw [← h.1, h0] at hr
    simp at ht hr
    subst ht hr
    exact ⟨h1, h2, h3⟩
/-- The log behind i records, and what was told of them. -/
def TwAt (W wr : World) (d mb i : Nat) (m : Int) (p : Nat) (v : Sl) (rs : List (List Int)) (tl : List (List Int)) : Prop := ∃ (n : Nat) (x : DSt) (Ls : Sg) (A B : Nat → Prop) (tt : List Sl),
  Se W wr d mb n x p dirX none Ls A B ∧ recsOf Ls = rs ∧ ToldIn W tt tl ∧ SOwn slE 27 wr W.heap.size (slV v) tl.length tt ∧ (∀ k, (slV v).ownBlock = some k → ¬ A k ∧ ¬ B k) ∧ n ≤ i ∧ x.wn ≤ m ∧ openN none Ls ≤ i + 1 ∧ Ls.length ≤ i ∧ rs.length ≤ i
theorem TwAt.grown {W w w' : World} {d mb i p : Nat} {m : Int} {v : Sl} {rs tl : List (List Int)} (h : TwAt W w d mb i m p v rs tl) (hg : w.grownBy w' none) : TwAt W w' d mb i m p v rs tl := by
  obtain ⟨n, x, Ls, A, B, tt, h1, h2, h3, h4, h5⟩ := h
  exact ⟨n, x, Ls, A, B, tt, h1.grown hg, h2, h3, SOwn.kept h4 hg (by cases h : (slV v).ownBlock <;> simp), h5⟩
theorem TwAt.from_ {W w : World} {d mb i p : Nat} {m : Int} {v : Sl} {rs tl : List (List Int)} (h : TwAt W w d mb i m p v rs tl) : W.grownBy w none := by
  obtain ⟨n, x, Ls, A, B, tt, h1, _⟩ := h
  exact h1.from_
theorem TwAt.more {W w : World} {d mb i i' p : Nat} {m m' : Int} {v : Sl} {rs tl : List (List Int)} (h : TwAt W w d mb i m p v rs tl) (hi : i ≤ i') (hm : m ≤ m') : TwAt W w d mb i' m' p v rs tl := by
  obtain ⟨n, x, Ls, A, B, tt, h1, h2, h3, h4, h5, h6, h7, h8, h9, h10⟩ := h
  exact ⟨n, x, Ls, A, B, tt, h1, h2, h3, h4, h5, by omega, by omega, by omega, by omega, by omega⟩
theorem sown_keptK {α : Type} {E : Elem α} {e : TypeId} {w w' : World} {base n : Nat} {v : Value} {l : List α} {X : Nat → Prop} (h : SOwn E e w base v n l) (hk : Kept w w' X) (hX : ∀ k, v.ownBlock = some k → ¬ X k) : SOwn E e w' base v n l := by
  refine ⟨h.1, ?_⟩
  rcases h.2 with h5 | ⟨g, cap, cur, rfl, k1, k2, k3⟩
  · exact .inl h5
  · refine .inr ⟨g, cap, cur, rfl, k1, ?_, k3⟩
    rw [hk.block g (by have := (Array.getElem?_eq_some_iff.1 k2).1; exact this) (hX g rfl)]
    exact k2
/-- Append. -/
theorem tw_append {W w : World} {d mb i p : Nat} {m : Int} {v : Sl} {rs tl : List (List Int)} (h : TwAt W w d mb i m p v rs tl) (a : Option Addr) (r : List Int) (L c : Nat) (hr : Rd w a r) (hL : r.length = L) (hnil : a = none → c = 0) (hz : L ≤ 65536) (hi : i < 1048576) (hm : m ≤ 999999900) :
    Calls Tryz.prog 17 #[.pointer (some ⟨p, 0, none⟩), .slice a L c] w fun e w' => e = .returned (.int .i64 0) ∧ TwAt W w' d mb (i + 1) (m + 2) p v (rs ++ [r]) tl := by
  obtain ⟨n, x, Ls, A, B, tt, h1, h2, h3, h4, h5, h6, h7, h8, h9, h10⟩ := h
  have had := log_add (rec := r) h1.log h1.calm (by omega) (by omega) (by omega)
  refine (s_append h1 dirX_ok a r L c (by omega) (by omega) (by omega) (by omega) hr hL hnil hz).mono ?_
  rintro e w' ⟨rfl, n', A', B', k1, k2, k3, k4⟩
  have hop : openN none (addL none Ls r) ≤ i + 1 + 1 := by
    rw [← had.op]
    have := rollX_le x dirX (openN none Ls)
    omega
  refine ⟨rfl, n', _, _, A', B', tt, k3, by rw [recsOf_add, h2], h3, sown_keptK h4 k4.kept (fun k hk => by have := h5 k hk; exact fun h => h.elim this.1 this.2), fun k hk => ?_, by omega, by omega, hop, ?_, by simp; omega⟩
  · have hkl := (h4.block k hk).2
    have := h5 k hk
    exact ⟨fun ha => this.1 (k4.oldA k hkl ha), fun hb => this.2 (k4.oldB k hkl hb)⟩
  · have := addL_len none Ls r
    omega
/-- What was told, a record longer. -/
theorem TwAt.told {W w w' : World} {d mb i p : Nat} {m : Int} {v v' : Sl} {rs tl : List (List Int)} {tt : List Sl} {r : List Int} {t : Sl} (h : TwAt W w d mb i m p v rs tl) (ht : ToldIn W tt tl) (ho : SOwn slE 27 w' W.heap.size (slV v') (tl.length + 1) (tt ++ [t])) (hg : w.grownBy w' (slV v).ownBlock) (hv : ∀ k, (slV v').ownBlock = some k → w.heap.size ≤ k ∨ (slV v).ownBlock = some k) (h1 : t.2.1 = r.length) (h2 : Rd W t.1 r) (h3 : r.length ≤ 140737488355000) : TwAt W w' d mb i m p v' rs (tl ++ [r]) := by
  obtain ⟨n, x, Ls, A, B, tt', k1, k2, k3, k4, k5, k6⟩ := h
  have hk : Kept w w' (fun k => (slV v).ownBlock = some k) := Kept.of hg (fun k hk => hk)
  refine ⟨n, x, Ls, A, B, tt ++ [t], ⟨⟨k1.at_.disk.others hk (fun k hb e => (k5 k e).2 hb), k1.at_.wal.kept hk (fun k ha e => (k5 k e).1 ha), k1.at_.apart, fun k hb => Nat.lt_of_lt_of_le (k1.at_.ltB k hb) hg.size, fun k ha => Nat.lt_of_lt_of_le (k1.at_.ltA k ha) hg.size⟩, k1.log, k1.calm, ?_, k1.low, k1.tab⟩, k2, ht.add t r h1 h2 h3, by simpa using ho, fun k hk => ?_, k6⟩
  · exact gb_trans k1.from_ hg (fun k hk => .inl (k4.block k hk).1)
  · rcases hv k hk with h | h
    · exact ⟨fun ha => by have := k1.at_.ltA k ha; omega, fun hb => by have := k1.at_.ltB k hb; omega⟩
    · exact k5 k h
theorem tw_sync {W w : World} {d mb i p : Nat} {m : Int} {v : Sl} {rs tl : List (List Int)} (h : TwAt W w d mb i m p v rs tl) (hi : i ≤ 1048576) (hm : m ≤ 999999900) :
    Calls Tryz.prog 19 #[.pointer (some ⟨p, 0, none⟩)] w fun e w' => e = .returned (.int .i64 0) ∧ TwAt W w' d mb i (m + 1) p v rs tl := by
  obtain ⟨n, x, Ls, A, B, tt, h1, h2, h3, h4, h5, h6, h7, h8, h9, h10⟩ := h
  refine (s_sync h1 dirX_ok (by omega) (by omega) (by omega)).mono ?_
  rintro e w' ⟨rfl, n', B', k1, k2, k3, k4⟩
  refine ⟨rfl, n', _, _, A, B', tt, k3, h2, h3, sown_keptK h4 k4.kept (fun k hk => by have := h5 k hk; exact fun h => h.elim this.1 this.2), fun k hk => ?_, by omega, by omega, h8, h9, h10⟩
  have hkl := (h4.block k hk).2
  have := h5 k hk
  exact ⟨this.1, fun hb => this.2 (k4.oldB k hkl hb)⟩
/-- Open, and what it tells. -/
theorem tw_open {W w : World} {d mb i p : Nat} {m : Int} {v : Sl} {rs : List (List Int)} (h : TwAt W w d mb i m p v rs rs) (hi : i ≤ 1048576) :
    Calls Tryz.prog 13 #[.pointer (some ⟨d, 0, none⟩), .string dirX] w fun e w' => ∃ (p' : Nat) (v' : Sl), e = .returned (.tuple #[.pointer (some ⟨p', 0, none⟩), slV v', .int .i64 0]) ∧ TwAt W w' d mb i m p' v rs rs ∧ w.grownBy w' none ∧ Calls Tryz.prog 22 #[slV v', slV v] w' fun e w'' => e = .returned (.bool true) ∧ w'.grownBy w'' none := by
  obtain ⟨n, x, Ls, A, B, tt, h1, h2, h3, h4, h5, h6, h7, h8, h9, h10⟩ := h
  refine (s_open h1.de dirX_ok (by omega) (by show (([] : List (List Int)) ++ recsOf Ls).length ≤ _; rw [h2]; simp; omega) (by omega)).mono ?_
  rintro e w' ⟨p', v', m', lo, A', rfl, k1, k2, k3, k4, k5⟩
  have hr : ∀ r ∈ cpRecs none ++ recsOf Ls, r.length ≤ 65536 := by
    intro r hr
    simp only [cpRecs, List.nil_append, recsOf, List.mem_flatMap] at hr
    obtain ⟨q, hq, hr⟩ := hr
    exact (h1.log.whole q hq).2.1 r hr
  obtain ⟨ts, hR, hl⟩ := k2.reads hr
  have h4' := SOwn.kept (row := none) h4 k3 (by cases h : (slV v).ownBlock <;> simp)
  have e1 : cpRecs none ++ recsOf Ls = rs := by rw [← h2]; rfl
  rw [e1] at hR hl
  obtain ⟨va, vn, vc⟩ := v
  obtain ⟨_, _, e2⟩ := sownSl h4
  have e3 : vn = rs.length := by unfold slV at e2; injection e2
  subst e3
  have hS : Reads w' va tt rs := ⟨SOwn.rd h4', h3.1, fun j t r ht hr => ⟨(h3.2 j t r ht hr).1, (h3.2 j t r ht hr).2.1.grown k1.from_ (by simp), (h3.2 j t r ht hr).2.2⟩⟩
  refine ⟨p', v', rfl, ⟨n, x, Ls, A', B, tt, k1, h2, h3, h4', fun k hk => ?_, h6, h7, h8, h9, h10⟩, k3, ?_⟩
  · have hkl := (h4.block k hk).2
    exact ⟨fun ha => by have := k4 k ha; omega, (h5 k hk).2⟩
  · obtain ⟨va', vn', vc'⟩ := v'
    have hl' : vn' = rs.length := hl.symm
    subst hl'
    refine (l_sameLists va' va ts tt rs rs rs.length rs.length vc' vc w' hR.1 hS rfl rfl (by omega)).mono ?_
    rintro e w'' ⟨rfl, hg⟩
    exact ⟨by simp, hg⟩
theorem hasPrefix_mid (s : List UInt8) (h : Lib.hasPrefix s [120, 47, 115] = true) : Lib.hasPrefix s [120, 47] = true := by
  unfold Lib.hasPrefix at h ⊢
  rw [List.isPrefixOf_iff_prefix] at h ⊢
  exact List.IsPrefix.trans ⟨[115], rfl⟩ h
theorem seg_pre (k : Nat) : Lib.hasPrefix (segN dirX k).data.toList [120, 47, 115] = true := has_app [120, 47, 115] (d8 k)
/-- The segments, counted twice. -/
theorem tw_count {W w : World} {d mb i p : Nat} {m : Int} {v : Sl} {rs tl : List (List Int)} (h : TwAt W w d mb i m p v rs tl) (hi : i ≤ 1048576) : ∃ c : Nat, (Calls Tryz.prog 29 #[.pointer (some ⟨p, 0, none⟩)] w fun e w' => e = .returned (.int .i64 (c : Int)) ∧ w = w') ∧ ∀ w1, w.grownBy w1 none → Calls Tryz.prog 26 #[.pointer (some ⟨d, 0, none⟩), .string ⟨#[120, 47, 115]⟩] w1 fun e w' => ∃ a cap, e = .returned (.slice a c cap) ∧ w1.grownBy w' none := by
  obtain ⟨n, x, Ls, A, B, tt, h1, h2, h3, h4, h5, h6, h7, h8, h9, h10⟩ := h
  have hseg := w_segments w p d dirX _ _ _ A h1.at_.wal
  rw [List.length_map] at hseg
  refine ⟨Ls.length, hseg, fun w1 hg => ?_⟩
  refine (x_list W.heap.size d mb n x B ⟨#[120, 47, 115]⟩ w1 (DV.kept h1.at_.disk hg) h1.calm.on (by omega)).mono ?_
  rintro e w' ⟨a, c, l, rfl, _, hg', hN, _⟩
  have hl : srt l = srt (Ls.map fun q => segN dirX q.1) := by
    have hf := h1.log.folder
    have hnm := hf.names
    have e0 : namesL dirX (cpNums none) false (Ls.map Prod.fst) = Ls.map fun q => segN dirX q.1 := by
      simp [namesL, cpNums, Function.comp_def]
    rw [e0] at hnm
    refine srt_eq hN.1 hnm.1 (fun s => ?_)
    rw [hN.2.2 s]
    constructor
    · rintro ⟨s1, s2⟩
      exact (hnm.2.2 s).2 ⟨s1, hasPrefix_mid _ s2⟩
    · intro hs
      refine ⟨((hnm.2.2 s).1 hs).1, ?_⟩
      obtain ⟨q, _, rfl⟩ := List.mem_map.1 hs
      exact seg_pre q.1
  have hll : l.length = Ls.length := by
    have := congrArg List.length hl
    rw [(srt_perm l).length_eq, (srt_perm _).length_eq, List.length_map] at this
    exact this
  rw [hll]
  exact ⟨a, c, rfl, hg'⟩
end Go.Proofs.YtekejnjaiccnbaaGreatDoor

/- WalTwice: the walk. -/
namespace Go.Proofs.YtekejnjaiccnbaaGreatDoor
open Go.RowKit Go.Maps Go.Sort
set_option linter.unusedVariables false
set_option maxRecDepth 20000

theorem own_none (o : Option Nat) : o = none ∨ o ≠ none := by cases o <;> simp
def blE : Elem Bool where
  cells b := [.bool b]
  size := 1
  pos := by decide
  len _ := rfl
  one t v h := by
    simp only [List.mem_cons, List.mem_nil_iff, or_false] at h
    subst h
    rfl
/-- Records as they come in. -/
structure RecsIn (W : World) (a : Option Addr) (ts : List Sl) (recs : List (List Int)) : Prop where
  rd : SRd slE W a ts
  len : ts.length = recs.length
  at_ : ∀ (i : Nat) (t : Sl) (r : List Int), ts[i]? = some t → recs[i]? = some r → t.2.1 = r.length ∧ Rd W t.1 r ∧ (t.1 = none → t.2.2 = 0) ∧ r.length ≤ 1048576
theorem RecsIn.get {W : World} {a : Option Addr} {ts : List Sl} {recs : List (List Int)} (h : RecsIn W a ts recs) {i : Nat} (hi : i < recs.length) : ∃ (b off : Nat) (t : Sl) (r : List Int), a = some ⟨b, off, none⟩ ∧ (∀ w, W.grownBy w none → w.cell? ⟨b, off + i, none⟩ = some (.slice t.1 t.2.1 t.2.2)) ∧ recs[i]? = some r ∧ t.2.1 = r.length ∧ Rd W t.1 r ∧ (t.1 = none → t.2.2 = 0) ∧ r.length ≤ 1048576 := by
  have hl := h.len
  obtain ⟨r, hr⟩ : ∃ r, recs[i]? = some r := ⟨_, List.getElem?_eq_getElem hi⟩
  obtain ⟨t, ht⟩ : ∃ t, ts[i]? = some t := ⟨_, List.getElem?_eq_getElem (by omega)⟩
  obtain ⟨kb, koff, e, hkc⟩ := h.rd.at (by omega)
  have a0 := hkc i _ 0 _ ht rfl
  obtain ⟨h1, h2, h3, h4⟩ := h.at_ i t r ht hr
  exact ⟨kb, koff, t, r, e, fun w hg => hg.cell (by simpa [slE, slV] using a0) (by simp), hr, h1, h2, h3, h4⟩
theorem bools_get {W : World} {a : Option Addr} {bs : List Bool} (h : SRd blE W a bs) {i : Nat} (hi : i < bs.length) : ∃ b off x, a = some ⟨b, off, none⟩ ∧ ∀ w, W.grownBy w none → w.cell? ⟨b, off + i, none⟩ = some (.bool x) := by
  obtain ⟨x, hx⟩ : ∃ x, bs[i]? = some x := ⟨_, List.getElem?_eq_getElem hi⟩
  obtain ⟨kb, koff, e, hkc⟩ := h.at (by omega)
  have a0 := hkc i _ 0 _ hx rfl
  exact ⟨kb, koff, x, e, fun w hg => hg.cell (by simpa [blE] using a0) (by simp)⟩
set_option maxHeartbeats 16000000 in
theorem w_twice (a : Option Addr) (ts : List Sl) (recs : List (List Int)) (N c : Nat) (oa : Option Addr) (opens : List Bool) (M oc : Nat) (w : World) (ht : Tab w) (hr : RecsIn w a ts recs) (hN : recs.length = N) (hN4 : N ≤ 1048576) (ho : SRd blE w oa opens) (hM : opens.length = M) :
    Calls Tryz.prog 8 #[.slice a N c, .slice oa M oc] w fun e w' => e = .returned (.bool true) ∧ w.grownBy w' none := by
  have HT : Hid (Tab w) := ht
  have HR : Hid (RecsIn w a ts recs) := hr
  have HO : Hid (SRd blE w oa opens) := ho
  have HN : Hid (recs.length = N) := hN
  have HM : Hid (opens.length = M) := hM
  clear ht hr ho hN hM
  go_enter Tryz.func8, Tryz.ntmps8
  go_wp2_with fail
  refine (v_new w).mono ?_
  rintro e w1 ⟨d, mb, B0, rfl, hd1, hg1, hl1⟩
  have hDe1 : De w w1 d mb 0 x0 dirX none [] (fun k => B0 k ∧ k < w1.heap.size) := ⟨DS.bound hd1, log0 dirX, x0_calm, hg1, fun k hk => hl1 k hk.1, fun k hk => hk.2, HT.out⟩
  have HO1 := s_open hDe1 dirX_ok (by decide) (by decide) (by decide)
  clear hd1 hg1 hl1 hDe1
  go_wp2_with fail
  refine HO1.mono ?_
  rintro e w2 ⟨p0, v0, m0, lo0, A0, rfl, hSe2, hro2, _, _, _⟩
  obtain ⟨ts2, _, _, _, hnil2⟩ := hro2
  rw [hnil2 rfl]
  have HTW : Hid (TwAt w w2 d mb 0 (3 * (0 : Nat)) p0 (none, 0, 0) [] []) := ⟨0, x0, [], _, _, [], hSe2, rfl, ⟨rfl, fun i t r h => by simp at h⟩, SOwn.nil 27 _ _, (fun k hk => by cases hk), by omega, by decide, by decide, by decide, by decide⟩
  clear HO1 hSe2 hnil2
  go_wp2_with fail
  go_loopw [6, 9, 10] (fun t6 t9 t10 wr => ∃ (i p : Nat) (v : Sl) (rs : List (List Int)), i ≤ N ∧ t6 = .pointer (some ⟨p, 0, none⟩) ∧ t9 = .slice v.1 v.2.1 v.2.2 ∧ t10 = .int .i64 i ∧ TwAt w wr d mb i (3 * (i : Int)) p v rs rs) (fun _ _ t10 _ => N - (intOf t10).toNat)
  case atStart => exact ⟨0, p0, (none, 0, 0), [], Nat.zero_le _, rfl, rfl, rfl, HTW.out⟩
  case round =>
    obtain ⟨i, p, v, rs, hi, rfl, rfl, rfl, htw⟩ := hrel
    have HW : Hid (TwAt w wr d mb i (3 * (i : Int)) p v rs rs) := htw
    by_cases hlt : i < N
    · have hii : (i : Int) < (N : Int) := by omega
      obtain ⟨b1, o1, t, r, rfl, hcl, hri, hl, hrd, hnil, hlen⟩ := HR.out.get (i := i) (by rw [HN.out]; exact hlt)
      obtain ⟨ta, tn, tc⟩ := t
      dsimp only at hcl hl hrd hnil
      have c1 := hcl wr htw.from_
      have HCL : Hid (∀ w', w.grownBy w' none → w'.cell? ⟨b1, o1 + i, none⟩ = some (.slice ta tn tc)) := hcl
      clear hcl
      have HRD : Hid (Rd w ta r) := hrd
      have HL : Hid (tn = r.length) := hl
      have HNIL : Hid (ta = none → tc = 0) := hnil
      clear hri hnil hrd
      by_cases hbig : 65536 < tn
      · have hbb : (65536 : Int) < (tn : Int) := by omega
        clear htw hl
        go_wp2
        go_roundw
        case rel => exact ⟨i + 1, p, v, rs, by omega, rfl, rfl, by go_num, HW.out.more (by omega) (by omega)⟩
        case measure => simp [intOf]; omega
      · have hbb : ¬ (65536 : Int) < (tn : Int) := by omega
        have HC : Hid (Calls Tryz.prog 18 #[.slice ta tn tc] wr fun e w' => ∃ g c, e = .returned (.slice (some ⟨g, 0, none⟩) tn c) ∧ Own w' wr.heap.size g tn c r ∧ wr.grownBy w' none) := by
          show Calls _ _ _ _ _
          rw [hl]
          exact copy_any ta r tc wr (HRD.out.grown htw.from_ (by simp)) HNIL.out (by omega)
        clear htw hl
        go_wp2_with fail
        refine HC.out.mono ?_
        rintro e w3 ⟨g3, c3, rfl, hown3, hg3⟩
        have HA : Hid (Calls Tryz.prog 17 #[.pointer (some ⟨p, 0, none⟩), .slice (some ⟨g3, 0, none⟩) tn c3] w3 fun e w' => e = .returned (.int .i64 0) ∧ TwAt w w' d mb (i + 1) (3 * (i : Int) + 2) p v (rs ++ [r]) rs) := tw_append (HW.out.grown hg3) (some ⟨g3, 0, none⟩) r tn c3 hown3.rd HL.out.symm (by simp) (by omega) (by omega) (by omega)
        clear hown3 hg3 HC
        go_wp2_with fail
        refine HA.out.mono ?_
        rintro e w4 ⟨rfl, h4⟩
        obtain ⟨n4, x4, Ls4, A4, B4, tt, k1, k2, k3, k4, k5, k6, k7, k8, k9, k10⟩ := h4
        have c4 := HCL.out w4 k1.from_
        have hrsl : rs.length ≤ i + 1 := by rw [List.length_append] at k10; omega
        obtain ⟨va, K, vc⟩ := v
        obtain ⟨_, _, e2⟩ := sownSl k4
        have eK : K = rs.length := by unfold slV at e2; injection e2
        have hK : K ≤ i + 1 := by omega
        have hg4 : w4.grownBy (w4.alloc (.cells #[.slice ta tn tc] 27)) none := World.grownBy_alloc _ _ none
        have HSO : Hid (SOwn slE 27 (w4.alloc (.cells #[.slice ta tn tc] 27)) w.heap.size (.slice va K vc) K tt) := by
          show SOwn _ _ _ _ _ _ _
          have := SOwn.kept (row := none) k4 hg4 (own_none _)
          rw [← eK] at this
          exact this
        have HLIT : Hid (SRd slE (w4.alloc (.cells #[.slice ta tn tc] 27)) (some ⟨w4.heap.size, 0, none⟩) [(ta, tn, tc)]) := sllit w4 [(ta, tn, tc)]
        have hbase : w.heap.size ≤ (w4.alloc (.cells #[.slice ta tn tc] 27)).heap.size := Nat.le_trans k1.from_.size hg4.size
        have HW4 : Hid (TwAt w (w4.alloc (.cells #[.slice ta tn tc] 27)) d mb (i + 1) (3 * (i : Int) + 2) p (va, K, vc) (rs ++ [r]) rs) := TwAt.grown ⟨n4, x4, Ls4, A4, B4, tt, k1, k2, k3, k4, k5, k6, k7, k8, k9, k10⟩ hg4
        have HTO : Hid (ToldIn w tt rs) := k3
        have HSTEP : Hid (∀ (g5 c5 : Nat) (w5 : World), SOwn slE 27 w5 w.heap.size (.slice (some ⟨g5, 0, none⟩) (K + 1) c5) (K + 1) (tt ++ [(ta, tn, tc)]) → (w4.alloc (.cells #[.slice ta tn tc] 27)).grownBy w5 (Value.ownBlock (.slice va K vc)) → (Value.ownBlock (.slice va K vc) = some g5 ∨ g5 = (w4.alloc (.cells #[.slice ta tn tc] 27)).heap.size) → TwAt w w5 d mb (i + 1) (3 * (i : Int) + 2) p (some ⟨g5, 0, none⟩, K + 1, c5) (rs ++ [r]) (rs ++ [r])) := fun g5 c5 w5 ho5 hg5 hgg5 =>
          HW4.out.told (v' := (some ⟨g5, 0, none⟩, K + 1, c5)) HTO.out (by rw [← eK]; exact ho5) hg5 (fun k hk => by
            have e : g5 = k := Option.some.inj hk
            subst e
            rcases hgg5 with h | h
            · exact .inr h
            · exact .inl (Nat.le_of_eq h.symm)) HL.out HRD.out (by omega)
        clear k1 k2 k3 k4 k5 k6 k7 k8 k9 k10 hg4 eK HA hrsl e2
        by_cases hMi : i < M
        · have hmm : (i : Int) < (M : Int) := by omega
          obtain ⟨b6, o6, bx, rfl, hbx⟩ := bools_get HO.out (i := i) (by rw [HM.out]; exact hMi)
          have HBX : Hid (∀ w', w.grownBy w' none → w'.cell? ⟨b6, o6 + i, none⟩ = some (.bool bx)) := hbx
          clear hbx
          cases bx with
          | false =>
            go_wp2_with (at_builtin; refine wpList_append_t slET rfl (.tmp 53) (.tmp 58) rfl w.heap.size (.slice va K vc) K tt rfl HSO.out ⟨w4.heap.size, 0, none⟩ [(ta, tn, tc)] 1 1 rfl rfl HLIT.out (by decide) (by omega) (by unfold maxLen; omega) hbase ?_; intro g5 c5 w5 ho5 hg5 hgg5; have HW5 : Hid (TwAt w w5 d mb (i + 1) (3 * (i : Int) + 2) p (some ⟨g5, 0, none⟩, K + 1, c5) (rs ++ [r]) (rs ++ [r])) := HSTEP.out g5 c5 w5 ho5 hg5 hgg5; clear ho5 hg5 hgg5; have hcb : w5.cell? ⟨b6, o6 + i, none⟩ = some (.bool false) := HBX.out w5 HW5.out.from_)
            go_roundw
            case rel => exact ⟨i + 1, p, _, _, by omega, rfl, rfl, by go_num, HW5.out.more (by omega) (by omega)⟩
            case measure => simp [intOf]; omega
          | true =>
            go_wp2_with (at_builtin; refine wpList_append_t slET rfl (.tmp 53) (.tmp 58) rfl w.heap.size (.slice va K vc) K tt rfl HSO.out ⟨w4.heap.size, 0, none⟩ [(ta, tn, tc)] 1 1 rfl rfl HLIT.out (by decide) (by omega) (by unfold maxLen; omega) hbase ?_; intro g5 c5 w5 ho5 hg5 hgg5; have HW5 : Hid (TwAt w w5 d mb (i + 1) (3 * (i : Int) + 2) p (some ⟨g5, 0, none⟩, K + 1, c5) (rs ++ [r]) (rs ++ [r])) := HSTEP.out g5 c5 w5 ho5 hg5 hgg5; clear ho5 hg5 hgg5; have hcb : w5.cell? ⟨b6, o6 + i, none⟩ = some (.bool true) := HBX.out w5 HW5.out.from_)
            have hsy := tw_sync HW5.out (by omega) (by omega)
            refine hsy.mono ?_
            rintro e w6 ⟨rfl, h6⟩
            have hop := tw_open h6 (by omega)
            clear hsy h6
            go_wp2_with fail
            refine hop.mono ?_
            rintro e w7 ⟨p7, v7, rfl, h7, hg7, hc7⟩
            have HW7 : Hid (TwAt w w7 d mb (i + 1) (3 * (i : Int) + 2 + 1) p7 (some ⟨g5, 0, none⟩, K + 1, c5) (rs ++ [r]) (rs ++ [r])) := h7
            clear hop h7 hg7
            go_wp2_with fail
            refine hc7.mono ?_
            rintro e w8 ⟨rfl, hg8⟩
            have HW8 : Hid (TwAt w w8 d mb (i + 1) (3 * (i : Int) + 2 + 1) p7 (some ⟨g5, 0, none⟩, K + 1, c5) (rs ++ [r]) (rs ++ [r])) := HW7.out.grown hg8
            clear hc7 hg8
            go_wp2
            go_roundw
            case rel => exact ⟨i + 1, p7, _, _, by omega, rfl, rfl, by go_num, HW8.out.more (by omega) (by omega)⟩
            case measure => simp [intOf]; omega
        · have hmm : ¬ (i : Int) < (M : Int) := by omega
          go_wp2_with (at_builtin; refine wpList_append_t slET rfl (.tmp 53) (.tmp 58) rfl w.heap.size (.slice va K vc) K tt rfl HSO.out ⟨w4.heap.size, 0, none⟩ [(ta, tn, tc)] 1 1 rfl rfl HLIT.out (by decide) (by omega) (by unfold maxLen; omega) hbase ?_; intro g5 c5 w5 ho5 hg5 hgg5; have HW5 : Hid (TwAt w w5 d mb (i + 1) (3 * (i : Int) + 2) p (some ⟨g5, 0, none⟩, K + 1, c5) (rs ++ [r]) (rs ++ [r])) := HSTEP.out g5 c5 w5 ho5 hg5 hgg5; clear ho5 hg5 hgg5)
          go_roundw
          case rel => exact ⟨i + 1, p, _, _, by omega, rfl, rfl, by go_num, HW5.out.more (by omega) (by omega)⟩
          case measure => simp [intOf]; omega
    · have hii : ¬ (i : Int) < (N : Int) := by omega
      obtain ⟨cn, hseg, hlist⟩ := tw_count htw (by omega)
      have HLI : Hid (∀ w1, wr.grownBy w1 none → Calls Tryz.prog 26 #[.pointer (some ⟨d, 0, none⟩), .string ⟨#[120, 47, 115]⟩] w1 fun e w' => ∃ a cap, e = .returned (.slice a cn cap) ∧ w1.grownBy w' none) := hlist
      have hop := tw_open htw (by omega)
      have q0 : ((cn : Int) == (cn : Int)) = true := by simp
      clear htw hlist
      go_wp2_with fail
      refine hseg.mono ?_
      rintro e _ ⟨rfl, rfl⟩
      clear hseg
      go_wp2_with fail
      refine hop.mono ?_
      rintro e w3 ⟨p3, v3, rfl, h3, hg3, hc3⟩
      have HF3 : Hid (w.grownBy w3 none) := h3.from_
      have HG3 : Hid (wr.grownBy w3 none) := hg3
      clear hop h3 hg3
      go_wp2_with fail
      refine hc3.mono ?_
      rintro e w4 ⟨rfl, hg4⟩
      have HF4 : Hid (w.grownBy w4 none) := HF3.out.trans hg4
      have hli := HLI.out w4 (HG3.out.trans hg4)
      clear hc3 hg4
      go_wp2_with fail
      refine hli.mono ?_
      rintro e w5 ⟨a5, c5, rfl, hg5⟩
      have HF5 : Hid (w.grownBy w5 none) := HF4.out.trans hg5
      have haw := w_awake w5 (HT.out.grown HF5.out)
      clear hli hg5
      go_wp2_with fail
      refine haw.mono ?_
      rintro e w6 ⟨rfl, hg6⟩
      have HF6 : Hid (w.grownBy w6 none) := HF5.out.trans hg6
      clear haw hg6
      go_wp2
      go_ret
      exact ⟨rfl, HF6.out⟩
end Go.Proofs.YtekejnjaiccnbaaGreatDoor

