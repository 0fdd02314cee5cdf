/- A log that is written and opened, again and again. -/
import Derived.Test.YtbhffjeoakalbaaGreatDoorXc
namespace Go.Proofs.YtbhffjeoakalbaaGreatDoor
open Go.RowKit Go.Maps Go.Sort
set_option linter.unusedVariables false
set_option maxRecDepth 20000

theorem addL_len (K : Kp) (Ls : Sg) (r : List Int) : (addL K Ls r).length ≤ Ls.length + 1 := by
  unfold addL
  cases h : Ls.getLast? with
  | none => simp
  | some q =>
    dsimp only
    split
    · simp
    · simp only [List.length_append, List.length_dropLast, List.length_cons, List.length_nil]
      omega
theorem rollX_le (x : DSt) (dir : ByteArray) (op : Nat) : (rollX x dir op).2 ≤ op + 1 := by
  unfold rollX
  split
  · exact Nat.le_succ _
  · split
    · exact Nat.le_refl _
    · exact Nat.le_succ _
/-- Slices that hold records in the world W. -/
def ToldIn (W : World) (tt : List Sl) (rs : List (List Int)) : Prop := tt.length = rs.length ∧ ∀ (i : Nat) (t : Sl) (r : List Int), tt[i]? = some t → rs[i]? = some r → t.2.1 = r.length ∧ Rd W t.1 r ∧ r.length ≤ 140737488355000
theorem ToldIn.add {W : World} {tt : List Sl} {rs : List (List Int)} (h : ToldIn W tt rs) (t : Sl) (r : List Int) (h1 : t.2.1 = r.length) (h2 : Rd W t.1 r) (h3 : r.length ≤ 140737488355000) : ToldIn W (tt ++ [t]) (rs ++ [r]) := by
  refine ⟨by simp [h.1], fun i t' r' ht hr => ?_⟩
  rcases Nat.lt_or_ge i tt.length with hi | hi
  · rw [List.getElem?_append_left hi] at ht
    rw [List.getElem?_append_left (by rw [← h.1]; exact hi)] at hr
    exact h.2 i t' r' ht hr
  · rw [List.getElem?_append_right hi] at ht
    rw [List.getElem?_append_right (by rw [← h.1]; exact hi)] at hr
    have h0 : i - tt.length = 0 := by
      have := (List.getElem?_eq_some_iff.1 ht).1
      simp at this
      omega
    rw [h0] at ht
    rw [← h.1, h0] at hr
    simp at ht hr
    subst ht hr
    exact ⟨h1, h2, h3⟩
/-- The log behind i records, and what was told of them. -/
def TwAt (W wr : World) (d mb i : Nat) (m : Int) (p : Nat) (v : Sl) (rs : List (List Int)) (tl : List (List Int)) : Prop := ∃ (n : Nat) (x : DSt) (Ls : Sg) (A B : Nat → Prop) (tt : List Sl),
  Se W wr d mb n x p dirX none Ls A B ∧ recsOf Ls = rs ∧ ToldIn W tt tl ∧ SOwn slE 27 wr W.heap.size (slV v) tl.length tt ∧ (∀ k, (slV v).ownBlock = some k → ¬ A k ∧ ¬ B k) ∧ n ≤ i ∧ x.wn ≤ m ∧ openN none Ls ≤ i + 1 ∧ Ls.length ≤ i ∧ rs.length ≤ i
theorem TwAt.grown {W w w' : World} {d mb i p : Nat} {m : Int} {v : Sl} {rs tl : List (List Int)} (h : TwAt W w d mb i m p v rs tl) (hg : w.grownBy w' none) : TwAt W w' d mb i m p v rs tl := by
  obtain ⟨n, x, Ls, A, B, tt, h1, h2, h3, h4, h5⟩ := h
  exact ⟨n, x, Ls, A, B, tt, h1.grown hg, h2, h3, SOwn.kept h4 hg (by cases h : (slV v).ownBlock <;> simp), h5⟩
theorem TwAt.from_ {W w : World} {d mb i p : Nat} {m : Int} {v : Sl} {rs tl : List (List Int)} (h : TwAt W w d mb i m p v rs tl) : W.grownBy w none := by
  obtain ⟨n, x, Ls, A, B, tt, h1, _⟩ := h
  exact h1.from_
theorem TwAt.more {W w : World} {d mb i i' p : Nat} {m m' : Int} {v : Sl} {rs tl : List (List Int)} (h : TwAt W w d mb i m p v rs tl) (hi : i ≤ i') (hm : m ≤ m') : TwAt W w d mb i' m' p v rs tl := by
  obtain ⟨n, x, Ls, A, B, tt, h1, h2, h3, h4, h5, h6, h7, h8, h9, h10⟩ := h
  exact ⟨n, x, Ls, A, B, tt, h1, h2, h3, h4, h5, by omega, by omega, by omega, by omega, by omega⟩
theorem sown_keptK {α : Type} {E : Elem α} {e : TypeId} {w w' : World} {base n : Nat} {v : Value} {l : List α} {X : Nat → Prop} (h : SOwn E e w base v n l) (hk : Kept w w' X) (hX : ∀ k, v.ownBlock = some k → ¬ X k) : SOwn E e w' base v n l := by
  refine ⟨h.1, ?_⟩
  rcases h.2 with h5 | ⟨g, cap, cur, rfl, k1, k2, k3⟩
  · exact .inl h5
  · refine .inr ⟨g, cap, cur, rfl, k1, ?_, k3⟩
    rw [hk.block g (by have := (Array.getElem?_eq_some_iff.1 k2).1; exact this) (hX g rfl)]
    exact k2
/-- Append. -/
theorem tw_append {W w : World} {d mb i p : Nat} {m : Int} {v : Sl} {rs tl : List (List Int)} (h : TwAt W w d mb i m p v rs tl) (a : Option Addr) (r : List Int) (L c : Nat) (hr : Rd w a r) (hL : r.length = L) (hnil : a = none → c = 0) (hz : L ≤ 65536) (hi : i < 1048576) (hm : m ≤ 999999900) :
    Calls Tryz.prog 17 #[.pointer (some ⟨p, 0, none⟩), .slice a L c] w fun e w' => e = .returned (.int .i64 0) ∧ TwAt W w' d mb (i + 1) (m + 2) p v (rs ++ [r]) tl := by
  obtain ⟨n, x, Ls, A, B, tt, h1, h2, h3, h4, h5, h6, h7, h8, h9, h10⟩ := h
  have had := log_add (rec := r) h1.log h1.calm (by omega) (by omega) (by omega)
  refine (s_append h1 dirX_ok a r L c (by omega) (by omega) (by omega) (by omega) hr hL hnil hz).mono ?_
  rintro e w' ⟨rfl, n', A', B', k1, k2, k3, k4⟩
  have hop : openN none (addL none Ls r) ≤ i + 1 + 1 := by
    rw [← had.op]
    have := rollX_le x dirX (openN none Ls)
    omega
  refine ⟨rfl, n', _, _, A', B', tt, k3, by rw [recsOf_add, h2], h3, sown_keptK h4 k4.kept (fun k hk => by have := h5 k hk; exact fun h => h.elim this.1 this.2), fun k hk => ?_, by omega, by omega, hop, ?_, by simp; omega⟩
  · have hkl := (h4.block k hk).2
    have := h5 k hk
    exact ⟨fun ha => this.1 (k4.oldA k hkl ha), fun hb => this.2 (k4.oldB k hkl hb)⟩
  · have := addL_len none Ls r
    omega
/-- What was told, a record longer. -/
theorem TwAt.told {W w w' : World} {d mb i p : Nat} {m : Int} {v v' : Sl} {rs tl : List (List Int)} {tt : List Sl} {r : List Int} {t : Sl} (h : TwAt W w d mb i m p v rs tl) (ht : ToldIn W tt tl) (ho : SOwn slE 27 w' W.heap.size (slV v') (tl.length + 1) (tt ++ [t])) (hg : w.grownBy w' (slV v).ownBlock) (hv : ∀ k, (slV v').ownBlock = some k → w.heap.size ≤ k ∨ (slV v).ownBlock = some k) (h1 : t.2.1 = r.length) (h2 : Rd W t.1 r) (h3 : r.length ≤ 140737488355000) : TwAt W w' d mb i m p v' rs (tl ++ [r]) := by
  obtain ⟨n, x, Ls, A, B, tt', k1, k2, k3, k4, k5, k6⟩ := h
  have hk : Kept w w' (fun k => (slV v).ownBlock = some k) := Kept.of hg (fun k hk => hk)
  refine ⟨n, x, Ls, A, B, tt ++ [t], ⟨⟨k1.at_.disk.others hk (fun k hb e => (k5 k e).2 hb), k1.at_.wal.kept hk (fun k ha e => (k5 k e).1 ha), k1.at_.apart, fun k hb => Nat.lt_of_lt_of_le (k1.at_.ltB k hb) hg.size, fun k ha => Nat.lt_of_lt_of_le (k1.at_.ltA k ha) hg.size⟩, k1.log, k1.calm, ?_, k1.low, k1.tab⟩, k2, ht.add t r h1 h2 h3, by simpa using ho, fun k hk => ?_, k6⟩
  · exact gb_trans k1.from_ hg (fun k hk => .inl (k4.block k hk).1)
  · rcases hv k hk with h | h
    · exact ⟨fun ha => by have := k1.at_.ltA k ha; omega, fun hb => by have := k1.at_.ltB k hb; omega⟩
    · exact k5 k h
theorem tw_sync {W w : World} {d mb i p : Nat} {m : Int} {v : Sl} {rs tl : List (List Int)} (h : TwAt W w d mb i m p v rs tl) (hi : i ≤ 1048576) (hm : m ≤ 999999900) :
    Calls Tryz.prog 19 #[.pointer (some ⟨p, 0, none⟩)] w fun e w' => e = .returned (.int .i64 0) ∧ TwAt W w' d mb i (m + 1) p v rs tl := by
  obtain ⟨n, x, Ls, A, B, tt, h1, h2, h3, h4, h5, h6, h7, h8, h9, h10⟩ := h
  refine (s_sync h1 dirX_ok (by omega) (by omega) (by omega)).mono ?_
  rintro e w' ⟨rfl, n', B', k1, k2, k3, k4⟩
  refine ⟨rfl, n', _, _, A, B', tt, k3, h2, h3, sown_keptK h4 k4.kept (fun k hk => by have := h5 k hk; exact fun h => h.elim this.1 this.2), fun k hk => ?_, by omega, by omega, h8, h9, h10⟩
  have hkl := (h4.block k hk).2
  have := h5 k hk
  exact ⟨this.1, fun hb => this.2 (k4.oldB k hkl hb)⟩
/-- Open, and what it tells. -/
theorem tw_open {W w : World} {d mb i p : Nat} {m : Int} {v : Sl} {rs : List (List Int)} (h : TwAt W w d mb i m p v rs rs) (hi : i ≤ 1048576) :
    Calls Tryz.prog 13 #[.pointer (some ⟨d, 0, none⟩), .string dirX] w fun e w' => ∃ (p' : Nat) (v' : Sl), e = .returned (.tuple #[.pointer (some ⟨p', 0, none⟩), slV v', .int .i64 0]) ∧ TwAt W w' d mb i m p' v rs rs ∧ w.grownBy w' none ∧ Calls Tryz.prog 22 #[slV v', slV v] w' fun e w'' => e = .returned (.bool true) ∧ w'.grownBy w'' none := by
  obtain ⟨n, x, Ls, A, B, tt, h1, h2, h3, h4, h5, h6, h7, h8, h9, h10⟩ := h
  refine (s_open h1.de dirX_ok (by omega) (by show (([] : List (List Int)) ++ recsOf Ls).length ≤ _; rw [h2]; simp; omega) (by omega)).mono ?_
  rintro e w' ⟨p', v', m', lo, A', rfl, k1, k2, k3, k4, k5⟩
  have hr : ∀ r ∈ cpRecs none ++ recsOf Ls, r.length ≤ 65536 := by
    intro r hr
    simp only [cpRecs, List.nil_append, recsOf, List.mem_flatMap] at hr
    obtain ⟨q, hq, hr⟩ := hr
    exact (h1.log.whole q hq).2.1 r hr
  obtain ⟨ts, hR, hl⟩ := k2.reads hr
  have h4' := SOwn.kept (row := none) h4 k3 (by cases h : (slV v).ownBlock <;> simp)
  have e1 : cpRecs none ++ recsOf Ls = rs := by rw [← h2]; rfl
  rw [e1] at hR hl
  obtain ⟨va, vn, vc⟩ := v
  obtain ⟨_, _, e2⟩ := sownSl h4
  have e3 : vn = rs.length := by unfold slV at e2; injection e2
  subst e3
  have hS : Reads w' va tt rs := ⟨SOwn.rd h4', h3.1, fun j t r ht hr => ⟨(h3.2 j t r ht hr).1, (h3.2 j t r ht hr).2.1.grown k1.from_ (by simp), (h3.2 j t r ht hr).2.2⟩⟩
  refine ⟨p', v', rfl, ⟨n, x, Ls, A', B, tt, k1, h2, h3, h4', fun k hk => ?_, h6, h7, h8, h9, h10⟩, k3, ?_⟩
  · have hkl := (h4.block k hk).2
    exact ⟨fun ha => by have := k4 k ha; omega, (h5 k hk).2⟩
  · obtain ⟨va', vn', vc'⟩ := v'
    have hl' : vn' = rs.length := hl.symm
    subst hl'
    refine (l_sameLists va' va ts tt rs rs rs.length rs.length vc' vc w' hR.1 hS rfl rfl (by omega)).mono ?_
    rintro e w'' ⟨rfl, hg⟩
    exact ⟨by simp, hg⟩
theorem hasPrefix_mid (s : List UInt8) (h : Lib.hasPrefix s [120, 47, 115] = true) : Lib.hasPrefix s [120, 47] = true := by
  unfold Lib.hasPrefix at h ⊢
  rw [List.isPrefixOf_iff_prefix] at h ⊢
  exact List.IsPrefix.trans ⟨[115], rfl⟩ h
theorem seg_pre (k : Nat) : Lib.hasPrefix (segN dirX k).data.toList [120, 47, 115] = true := has_app [120, 47, 115] (d8 k)
/-- The segments, counted twice. -/
theorem tw_count {W w : World} {d mb i p : Nat} {m : Int} {v : Sl} {rs tl : List (List Int)} (h : TwAt W w d mb i m p v rs tl) (hi : i ≤ 1048576) : ∃ c : Nat, (Calls Tryz.prog 29 #[.pointer (some ⟨p, 0, none⟩)] w fun e w' => e = .returned (.int .i64 (c : Int)) ∧ w = w') ∧ ∀ w1, w.grownBy w1 none → Calls Tryz.prog 26 #[.pointer (some ⟨d, 0, none⟩), .string ⟨#[120, 47, 115]⟩] w1 fun e w' => ∃ a cap, e = .returned (.slice a c cap) ∧ w1.grownBy w' none := by
  obtain ⟨n, x, Ls, A, B, tt, h1, h2, h3, h4, h5, h6, h7, h8, h9, h10⟩ := h
  have hseg := w_segments w p d dirX _ _ _ A h1.at_.wal
  rw [List.length_map] at hseg
  refine ⟨Ls.length, hseg, fun w1 hg => ?_⟩
  refine (x_list W.heap.size d mb n x B ⟨#[120, 47, 115]⟩ w1 (DV.kept h1.at_.disk hg) h1.calm.on (by omega)).mono ?_
  rintro e w' ⟨a, c, l, rfl, _, hg', hN, _⟩
  have hl : srt l = srt (Ls.map fun q => segN dirX q.1) := by
    have hf := h1.log.folder
    have hnm := hf.names
    have e0 : namesL dirX (cpNums none) false (Ls.map Prod.fst) = Ls.map fun q => segN dirX q.1 := by
      simp [namesL, cpNums, Function.comp_def]
    rw [e0] at hnm
    refine srt_eq hN.1 hnm.1 (fun s => ?_)
    rw [hN.2.2 s]
    constructor
    · rintro ⟨s1, s2⟩
      exact (hnm.2.2 s).2 ⟨s1, hasPrefix_mid _ s2⟩
    · intro hs
      refine ⟨((hnm.2.2 s).1 hs).1, ?_⟩
      obtain ⟨q, _, rfl⟩ := List.mem_map.1 hs
      exact seg_pre q.1
  have hll : l.length = Ls.length := by
    have := congrArg List.length hl
    rw [(srt_perm l).length_eq, (srt_perm _).length_eq, List.length_map] at this
    exact this
  rw [hll]
  exact ⟨a, c, rfl, hg'⟩
end Go.Proofs.YtbhffjeoakalbaaGreatDoor
