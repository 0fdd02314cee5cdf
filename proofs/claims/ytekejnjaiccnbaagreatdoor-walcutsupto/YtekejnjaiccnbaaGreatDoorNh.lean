/- Several texts in one: Zi, Zk. -/
import Derived.Test.YtekejnjaiccnbaaGreatDoorNd
import Derived.Test.YtekejnjaiccnbaaGreatDoorNg
import Derived.Test.YtekejnjaiccnbaaGreatDoorNf
/- A log over an armed disk, call by call. -/
namespace Go.Proofs.YtekejnjaiccnbaaGreatDoor
open Go.RowKit Go.Maps Go.Sort
set_option linter.unusedVariables false
set_option maxRecDepth 20000

/-- A disk that may be armed, a log open over it, and what is synced of that. -/
structure Sb (W w : World) (d mb n : Nat) (x : DSt) (p : Nat) (Ls : Sg) (safe : Nat) (A B : Nat → Prop) : Prop where
  at_ : LogAt w W.heap.size d mb n x p dirX (cpName dirX none) (Ls.map Prod.fst) (openN none Ls) A B
  log : Log x.V dirX none Ls
  sy : Sy x.V dirX Ls safe
  on : x.off = false
  ok : x.ok
  from_ : W.grownBy w none
  low : ∀ k, A k ∨ B k → W.heap.size ≤ k
  tab : Tab W
/-- A disk whose power has gone, and what stands on it. -/
structure Lo (W w : World) (d mb n : Nat) (x : DSt) (Ls : Sg) (safe : Nat) (B : Nat → Prop) : Prop where
  disk : DS w W.heap.size d mb n x B
  lost : ∃ kp V, x = ⟨true, false, 0, 0, x.wn, lostV kp V⟩ ∧ Log V dirX none Ls ∧ Sy V dirX Ls safe
  wn : 0 ≤ x.wn
  from_ : W.grownBy w none
  low : ∀ k, B k → W.heap.size ≤ k
  ltB : ∀ k, B k → k < w.heap.size
  tab : Tab W
theorem Sb.far {W w : World} {d mb n : Nat} {x : DSt} {p : Nat} {Ls : Sg} {safe : Nat} {A B : Nat → Prop} (h : Sb W w d mb n x p Ls safe A B) : Tab w ∧ Far A B :=
  ⟨h.tab.grown h.from_, fun g hg => ⟨fun ha => by have := h.low g (.inl ha); have := h.tab.lt hg; omega, fun hb => by have := h.low g (.inr hb); have := h.tab.lt hg; omega⟩⟩
theorem Sb.grown {W w w' : World} {d mb n : Nat} {x : DSt} {p : Nat} {Ls : Sg} {safe : Nat} {A B : Nat → Prop} (h : Sb W w d mb n x p Ls safe A B) (hg : w.grownBy w' none) : Sb W w' d mb n x p Ls safe A B :=
  ⟨h.at_.grown hg, h.log, h.sy, h.on, h.ok, h.from_.trans hg, h.low, h.tab⟩
theorem Lo.grown {W w w' : World} {d mb n : Nat} {x : DSt} {Ls : Sg} {safe : Nat} {B : Nat → Prop} (h : Lo W w d mb n x Ls safe B) (hg : w.grownBy w' none) : Lo W w' d mb n x Ls safe B :=
  ⟨DV.kept h.disk hg, h.lost, h.wn, h.from_.trans hg, h.low, fun k hk => Nat.lt_of_lt_of_le (h.ltB k hk) hg.size, h.tab⟩
/-- What a call of the log leaves, if the power goes in it. -/
theorem lost_lo {W w w' : World} {d mb n : Nat} {x y : DSt} {p : Nat} {Ls Ls' : Sg} {safe : Nat} {A B : Nat → Prop} (h : Sb W w d mb n x p Ls safe A B) (hl : LostAt w W.heap.size d mb n y p dirX (cpName dirX none) A B w') (hy : ∃ kp V, y = ⟨true, false, 0, 0, y.wn, lostV kp V⟩ ∧ Log V dirX none Ls' ∧ Sy V dirX Ls' safe) (hw : 0 ≤ y.wn) : ∃ n' A' B', n' ≤ n + 1 ∧ Lo W w' d mb n' y Ls' safe B' ∧ Step2 w w' A B A' B' := by
  obtain ⟨n', A', B', sg, op, h1, h2, h3⟩ := hl
  exact ⟨n', A', B', h1, ⟨h2.disk, hy, hw, h3.from_ h.from_ h.low, fun k hk => h3.low h.from_ h.low k (.inr hk), h2.ltB, h.tab⟩, h3⟩
/-- Append. -/
theorem sb_append {W w : World} {d mb n : Nat} {x : DSt} {p : Nat} {Ls : Sg} {safe : Nat} {A B : Nat → Prop} (h : Sb W w d mb n x p Ls safe A B) (a : Option Addr) (zs : List Int) (L cap : Nat) (hw : x.wn ≤ 999999900) (hop : openN none Ls < 99999998) (hn : n < 1048576) (hsg : Ls.length ≤ 4194304) (hr : Rd w a zs) (hL : zs.length = L) (hnil : a = none → cap = 0) (hz : L ≤ 65536) :
    Calls Tryz.prog 17 #[.pointer (some ⟨p, 0, none⟩), .slice a L cap] w fun e w' =>
      (e = .returned (.int .i64 0) ∧ ∃ n' x' A' B', n' ≤ n + 1 ∧ x'.wn ≤ x.wn + 2 ∧ Sb W w' d mb n' x' p (addL none Ls zs) safe A' B' ∧ Step2 w w' A B A' B') ∨
      (e = .returned (.int .i64 60) ∧ ∃ n' x' Ls' A' B', n' ≤ n + 1 ∧ x'.wn ≤ x.wn + 2 ∧ Lo W w' d mb n' x' Ls' safe B' ∧ (Ls' = Ls ∨ Ls' = addL none Ls zs) ∧ Step2 w w' A B A' B') := by
  have hfar := h.far
  have hw0 := h.ok.1.1
  have hfl : (frameR zs).length ≤ 65543 := by
    have hu : zs.length ≤ 65536 := by omega
    exact frame_len zs hu
  have hop9 : openN none Ls < 99999999 := by omega
  cases app_case (rec := zs) h.log h.on h.ok (by omega) (by omega) hop h.sy with
  | roll q hV hbig hs =>
    refine (w_appendP W.heap.size d mb n x p dirX (cpName dirX none) (Ls.map Prod.fst) (openN none Ls) A B a zs L cap w dirX_ok hfar.1 hfar.2 h.at_ ⟨true, false, 0, 0, x.wn + 1, lostV x.kp x.V⟩ ?_ hr hL hnil hz h.from_.size).mono ?_
    · intro q' r' ad M cd W' ht' hL' hq' hqA hr' hrA hsr hM hM0 hby hb' had hadl
      exact w_append1PR W.heap.size d mb n x p q' r' dirX _ _ _ A B ad zs M cd W' dirX_ok ht' hfar.2 hL' h.on q hV hbig _ hs h.ok (by omega) hop hn (by rw [List.length_map]; exact hsg) hq' hqA hr' hrA hsr hM hM0 hby hb' had hadl
    · rintro e w' ⟨rfl, hl⟩
      obtain ⟨n', A', B', h1, h2, h3⟩ := lost_lo h hl ⟨x.kp, x.V, rfl, h.log, h.sy⟩ (by dsimp only; omega)
      exact .inr ⟨rfl, n', _, Ls, A', B', h1, by dsimp only; omega, h2, .inl rfl, h3⟩
  | write c y hsy hon hok hap hy hwn segs op room =>
    rcases hy with ⟨rfl, y1, y2, y3, y4⟩ | ⟨rfl, kp, V, wn, ey, y3, y4⟩
    · have e2 : appX x dirX (openN none Ls) zs = y := by unfold appX; rw [hap]
      refine (w_appendA W.heap.size d mb n x p dirX (cpName dirX none) (Ls.map Prod.fst) (openN none Ls) A B a zs L cap w dirX_ok hfar.1 hfar.2 h.at_ h.on hsy hon hok (by rw [hap]) h.ok (by omega) hop hn (by rw [List.length_map]; exact hsg) hr hL hnil hz (by omega) h.from_.size).mono ?_
      rintro e w' ⟨rfl, n', A', B', hn', hL', hS'⟩
      rw [segs, op, e2] at hL'
      exact .inl ⟨rfl, n', y, A', B', hn', hwn.2, ⟨hL', y3, y4, y1, y2, hS'.from_ h.from_ h.low, hS'.low h.from_ h.low, h.tab⟩, hS'⟩
    · refine (w_appendP W.heap.size d mb n x p dirX (cpName dirX none) (Ls.map Prod.fst) (openN none Ls) A B a zs L cap w dirX_ok hfar.1 hfar.2 h.at_ y ?_ hr hL hnil hz h.from_.size).mono ?_
      · intro q' r' ad M cd W' ht' hL' hq' hqA hr' hrA hsr hM hM0 hby hb' had hadl
        exact w_append1PW W.heap.size d mb n x p q' r' dirX _ _ _ A B ad zs M cd W' dirX_ok ht' hfar.2 hL' h.on hsy hon hok y hap h.ok (by omega) hop hn (by rw [List.length_map]; exact hsg) hq' hqA hr' hrA hsr hM hM0 hby (by omega) hb' had hadl
      · rintro e w' ⟨rfl, hl⟩
        obtain ⟨n', A', B', h1, h2, h3⟩ := lost_lo (Ls' := addL none Ls zs) h hl ⟨kp, V, by rw [ey], y3, y4⟩ (by omega)
        exact .inr ⟨rfl, n', y, _, A', B', h1, hwn.2, h2, .inr rfl, h3⟩
/-- Sync. -/
theorem sb_sync {W w : World} {d mb n : Nat} {x : DSt} {p : Nat} {Ls : Sg} {safe : Nat} {A B : Nat → Prop} (h : Sb W w d mb n x p Ls safe A B) (hw : x.wn ≤ 999999900) (hop : openN none Ls < 99999998) (hsg : Ls.length ≤ 4194304) :
    Calls Tryz.prog 19 #[.pointer (some ⟨p, 0, none⟩)] w fun e w' =>
      (e = .returned (.int .i64 0) ∧ ∃ n' x' B', n' ≤ n ∧ x'.wn ≤ x.wn + 1 ∧ Sb W w' d mb n' x' p Ls (recsOf Ls).length A B' ∧ Step2 w w' A B A B') ∨
      (e = .returned (.int .i64 60) ∧ ∃ n' x' A' B', n' ≤ n + 1 ∧ x'.wn ≤ x.wn + 1 ∧ Lo W w' d mb n' x' Ls safe B' ∧ Step2 w w' A B A' B') := by
  have hfar := h.far
  have hw0 := h.ok.1.1
  have hop9 : openN none Ls < 99999999 := by omega
  rcases sync_case h.log h.on h.ok (by omega) h.sy with ⟨hs0, s1, s2, s3, s4, s5, s6⟩ | ⟨ho, hs⟩
  · refine (w_sync W.heap.size d mb n x p dirX (cpName dirX none) (Ls.map Prod.fst) (openN none Ls) A B w dirX_ok hfar.1 h.at_ h.ok hop9 (by rw [List.length_map]; exact hsg) hs0).mono ?_
    rintro e w' ⟨rfl, n', B', hn', hL', hS'⟩
    exact .inl ⟨rfl, n', _, B', hn', s5, ⟨hL', s3, s4, s1, s2, hS'.from_ h.from_ h.low, hS'.low h.from_ h.low, h.tab⟩, hS'⟩
  · refine (w_syncP W.heap.size d mb n x p dirX (cpName dirX none) (Ls.map Prod.fst) (openN none Ls) A B w dirX_ok hfar.1 h.at_ h.ok hop9 (by rw [List.length_map]; exact hsg) ho _ hs).mono ?_
    rintro e w' ⟨rfl, hl⟩
    obtain ⟨n', A', B', h1, h2, h3⟩ := lost_lo h hl ⟨x.kp, x.V, rfl, h.log, h.sy⟩ (by dsimp only; omega)
    exact .inr ⟨rfl, n', _, A', B', h1, by dsimp only; omega, h2, h3⟩
end Go.Proofs.YtekejnjaiccnbaaGreatDoor

/- WalKeeps: a log that is written till the power goes, and what was told of it. -/
namespace Go.Proofs.YtekejnjaiccnbaaGreatDoor
open Go.RowKit Go.Maps Go.Sort
set_option linter.unusedVariables false
set_option maxRecDepth 20000

theorem x_up {w : World} {base d mb n : Nat} {x : DSt} {B : Nat → Prop} (h : DS w base d mb n x B) : Calls Tryz.prog 16 #[.pointer (some ⟨d, 0, none⟩)] w fun e w' => e = .returned (.bool !x.off) ∧ w = w' :=
  d_up d mb x.off x.set x.ah x.kp x.wn w (DV.row h)
/-- The log behind i records; its disk is on. -/
def KuAt (W wr : World) (d mb i : Nat) (m : Int) (p : Nat) (v : Sl) (safe : Nat) (rs tl : List (List Int)) : Prop := ∃ (n : Nat) (x : DSt) (Ls : Sg) (A B : Nat → Prop) (tt : List Sl),
  Sb W wr d mb n x p Ls safe A B ∧ recsOf Ls = rs ∧ ToldIn W tt tl ∧ SOwn slE 27 wr W.heap.size (slV v) tl.length tt ∧ (∀ k, (slV v).ownBlock = some k → ¬ A k ∧ ¬ B k) ∧ n ≤ i ∧ x.wn ≤ m ∧ openN none Ls ≤ i + 1 ∧ Ls.length ≤ i ∧ rs.length ≤ i ∧ ∀ q ∈ Ls, Good q
/-- .. and the power has gone. -/
def KoAt (W wr : World) (d mb i : Nat) (m : Int) (v : Sl) (safe : Nat) (tl : List (List Int)) : Prop := ∃ (n : Nat) (x : DSt) (Ls : Sg) (B : Nat → Prop) (tt : List Sl),
  Lo W wr d mb n x Ls safe B ∧ (∃ R, recsOf Ls = tl.take R) ∧ ToldIn W tt tl ∧ SOwn slE 27 wr W.heap.size (slV v) tl.length tt ∧ (∀ k, (slV v).ownBlock = some k → ¬ B k) ∧ n ≤ i ∧ x.wn ≤ m ∧ Ls.length ≤ i ∧ tl.length ≤ i ∧ ∀ q ∈ Ls, Good q
theorem KuAt.grown {W w w' : World} {d mb i p safe : Nat} {m : Int} {v : Sl} {rs tl : List (List Int)} (h : KuAt W w d mb i m p v safe rs tl) (hg : w.grownBy w' none) : KuAt W w' d mb i m p v safe rs tl := by
  obtain ⟨n, x, Ls, A, B, tt, h1, h2, h3, h4, h5⟩ := h
  exact ⟨n, x, Ls, A, B, tt, h1.grown hg, h2, h3, SOwn.kept h4 hg (by cases h : (slV v).ownBlock <;> simp), h5⟩
theorem KuAt.from_ {W w : World} {d mb i p safe : Nat} {m : Int} {v : Sl} {rs tl : List (List Int)} (h : KuAt W w d mb i m p v safe rs tl) : W.grownBy w none := by
  obtain ⟨n, x, Ls, A, B, tt, h1, _⟩ := h
  exact h1.from_
theorem KoAt.from_ {W w : World} {d mb i safe : Nat} {m : Int} {v : Sl} {tl : List (List Int)} (h : KoAt W w d mb i m v safe tl) : W.grownBy w none := by
  obtain ⟨n, x, Ls, B, tt, h1, _⟩ := h
  exact h1.from_
theorem KuAt.more {W w : World} {d mb i i' p safe : Nat} {m m' : Int} {v : Sl} {rs tl : List (List Int)} (h : KuAt W w d mb i m p v safe rs tl) (hi : i ≤ i') (hm : m ≤ m') : KuAt W w d mb i' m' p v safe rs tl := by
  obtain ⟨n, x, Ls, A, B, tt, h1, h2, h3, h4, h5, h6, h7, h8, h9, h10, h11⟩ := h
  exact ⟨n, x, Ls, A, B, tt, h1, h2, h3, h4, h5, by omega, by omega, by omega, by omega, by omega, h11⟩
theorem KoAt.more {W w : World} {d mb i i' safe : Nat} {m m' : Int} {v : Sl} {tl : List (List Int)} (h : KoAt W w d mb i m v safe tl) (hi : i ≤ i') (hm : m ≤ m') : KoAt W w d mb i' m' v safe tl := by
  obtain ⟨n, x, Ls, B, tt, h1, h2, h3, h4, h5, h6, h7, h8, h9, h10⟩ := h
  exact ⟨n, x, Ls, B, tt, h1, h2, h3, h4, h5, by omega, by omega, by omega, by omega, h10⟩
theorem ku_up {W w : World} {d mb i p safe : Nat} {m : Int} {v : Sl} {rs tl : List (List Int)} (h : KuAt W w d mb i m p v safe rs tl) : Calls Tryz.prog 16 #[.pointer (some ⟨d, 0, none⟩)] w fun e w' => e = .returned (.bool true) ∧ w = w' := by
  obtain ⟨n, x, Ls, A, B, tt, h1, _⟩ := h
  have := x_up h1.at_.disk
  rw [h1.on] at this
  exact this
theorem ko_up {W w : World} {d mb i safe : Nat} {m : Int} {v : Sl} {tl : List (List Int)} (h : KoAt W w d mb i m v safe tl) : Calls Tryz.prog 16 #[.pointer (some ⟨d, 0, none⟩)] w fun e w' => e = .returned (.bool false) ∧ w = w' := by
  obtain ⟨n, x, Ls, B, tt, h1, _⟩ := h
  have := x_up h1.disk
  obtain ⟨kp, V, e, _⟩ := h1.lost
  rw [e] at this
  exact this
/-- What was told, a record longer. -/
theorem KuAt.told {W w w' : World} {d mb i p safe : Nat} {m : Int} {v v' : Sl} {rs tl : List (List Int)} {tt : List Sl} {r : List Int} {t : Sl} (h : KuAt W w d mb i m p v safe rs tl) (ht : ToldIn W tt tl) (ho : SOwn slE 27 w' W.heap.size (slV v') (tl.length + 1) (tt ++ [t])) (hg : w.grownBy w' (slV v).ownBlock) (hv : ∀ k, (slV v').ownBlock = some k → w.heap.size ≤ k ∨ (slV v).ownBlock = some k) (h1 : t.2.1 = r.length) (h2 : Rd W t.1 r) (h3 : r.length ≤ 140737488355000) : KuAt W w' d mb i m p v' safe rs (tl ++ [r]) := by
  obtain ⟨n, x, Ls, A, B, tt', k1, k2, k3, k4, k5, k6⟩ := h
  have hk : Kept w w' (fun k => (slV v).ownBlock = some k) := Kept.of hg (fun k hk => hk)
  refine ⟨n, x, Ls, A, B, tt ++ [t], ⟨⟨k1.at_.disk.others hk (fun k hb e => (k5 k e).2 hb), k1.at_.wal.kept hk (fun k ha e => (k5 k e).1 ha), k1.at_.apart, fun k hb => Nat.lt_of_lt_of_le (k1.at_.ltB k hb) hg.size, fun k ha => Nat.lt_of_lt_of_le (k1.at_.ltA k ha) hg.size⟩, k1.log, k1.sy, k1.on, k1.ok, ?_, k1.low, k1.tab⟩, k2, ht.add t r h1 h2 h3, by simpa using ho, fun k hk => ?_, k6⟩
  · exact gb_trans k1.from_ hg (fun k hk => .inl (k4.block k hk).1)
  · rcases hv k hk with h | h
    · exact ⟨fun ha => by have := k1.at_.ltA k ha; omega, fun hb => by have := k1.at_.ltB k hb; omega⟩
    · exact k5 k h
theorem recsOf_addL (Ls : Sg) (r : List Int) (rs : List (List Int)) (h : recsOf Ls = rs) (Ls' : Sg) (h' : Ls' = Ls ∨ Ls' = addL none Ls r) : ∃ R, recsOf Ls' = (rs ++ [r]).take R := by
  rcases h' with rfl | rfl
  · exact ⟨rs.length, by rw [h]; simp⟩
  · exact ⟨rs.length + 1, by rw [recsOf_add, h, List.take_of_length_le (by simp)]⟩
/-- Append. -/
theorem ku_append {W w : World} {d mb i p safe : Nat} {m : Int} {v : Sl} {rs : List (List Int)} (a : Option Addr) (r : List Int) (L c : Nat) (h : KuAt W w d mb i m p v safe rs (rs ++ [r])) (hr : Rd w a r) (hL : r.length = L) (hnil : a = none → c = 0) (hz : L ≤ 65536) (hi : i < 1048576) (hm : m ≤ 999999900) :
    Calls Tryz.prog 17 #[.pointer (some ⟨p, 0, none⟩), .slice a L c] w fun e w' => (e = .returned (.int .i64 0) ∧ KuAt W w' d mb (i + 1) (m + 2) p v safe (rs ++ [r]) (rs ++ [r])) ∨ (e = .returned (.int .i64 60) ∧ KoAt W w' d mb (i + 1) (m + 2) v safe (rs ++ [r])) := by
  obtain ⟨n, x, Ls, A, B, tt, h1, h2, h3, h4, h5, h6, h7, h8, h9, h10, h11⟩ := h
  have hlen := addL_len none Ls r
  have hgood := addL_good (K := none) (r := r) h11 (by omega)
  have had := log_add (x := x.calmed) (rec := r) h1.log (calmed_calm x h1.ok) (by show x.wn ≤ _; omega) (by omega) (by omega)
  have hop : openN none (addL none Ls r) ≤ i + 1 + 1 := by
    rw [← had.op]
    have := rollX_le x.calmed dirX (openN none Ls)
    omega
  refine (sb_append h1 a r L c (by omega) (by omega) (by omega) (by omega) hr hL hnil hz).mono ?_
  rintro e w' (⟨rfl, n', x', A', B', k1, k2, k3, k4⟩ | ⟨rfl, n', x', Ls', A', B', k1, k2, k3, k4, k5⟩)
  · refine .inl ⟨rfl, n', x', _, A', B', tt, k3, by rw [recsOf_add, h2], h3, sown_keptK h4 k4.kept (fun k hk => by have := h5 k hk; exact fun h => h.elim this.1 this.2), fun k hk => ?_, by omega, by omega, hop, by omega, by simp; omega, hgood⟩
    have hkl := (h4.block k hk).2
    have := h5 k hk
    exact ⟨fun ha => this.1 (k4.oldA k hkl ha), fun hb => this.2 (k4.oldB k hkl hb)⟩
  · refine .inr ⟨rfl, n', x', Ls', B', tt, k3, recsOf_addL Ls r rs h2 Ls' k4, h3, sown_keptK h4 k5.kept (fun k hk => by have := h5 k hk; exact fun h => h.elim this.1 this.2), fun k hk hb => (h5 k hk).2 (k5.oldB k (h4.block k hk).2 hb), by omega, by omega, ?_, by simp; omega, ?_⟩
    · rcases k4 with rfl | rfl <;> omega
    · rcases k4 with rfl | rfl
      · exact h11
      · exact hgood
/-- Sync. -/
theorem ku_sync {W w : World} {d mb i p safe : Nat} {m : Int} {v : Sl} {rs : List (List Int)} (h : KuAt W w d mb i m p v safe rs rs) (hi : i ≤ 1048576) (hm : m ≤ 999999900) :
    Calls Tryz.prog 19 #[.pointer (some ⟨p, 0, none⟩)] w fun e w' => (e = .returned (.int .i64 0) ∧ KuAt W w' d mb i (m + 1) p v rs.length rs rs) ∨ (e = .returned (.int .i64 60) ∧ KoAt W w' d mb (i + 1) (m + 1) v safe rs) := by
  obtain ⟨n, x, Ls, A, B, tt, h1, h2, h3, h4, h5, h6, h7, h8, h9, h10, h11⟩ := h
  refine (sb_sync h1 (by omega) (by omega) (by omega)).mono ?_
  rintro e w' (⟨rfl, n', x', B', k1, k2, k3, k4⟩ | ⟨rfl, n', x', A', B', k1, k2, k3, k4⟩)
  · rw [h2] at k3
    refine .inl ⟨rfl, n', x', _, A, B', tt, k3, h2, h3, sown_keptK h4 k4.kept (fun k hk => by have := h5 k hk; exact fun h => h.elim this.1 this.2), fun k hk => ?_, by omega, by omega, h8, h9, h10, h11⟩
    have hkl := (h4.block k hk).2
    have := h5 k hk
    exact ⟨this.1, fun hb => this.2 (k4.oldB k hkl hb)⟩
  · refine .inr ⟨rfl, n', x', Ls, B', tt, k3, ⟨rs.length, by rw [h2, List.take_length]⟩, h3, sown_keptK h4 k4.kept (fun k hk => by have := h5 k hk; exact fun h => h.elim this.1 this.2), fun k hk hb => (h5 k hk).2 (k4.oldB k (h4.block k hk).2 hb), by omega, by omega, by omega, by omega, h11⟩
/-- Off. -/
theorem ku_off {W w : World} {d mb i p safe : Nat} {m : Int} {v : Sl} {rs : List (List Int)} (h : KuAt W w d mb i m p v safe rs rs) (keep : Int) (hk : -9223372036854775808 ≤ keep ∧ keep ≤ 9223372036854775807) :
    Calls Tryz.prog 20 #[.pointer (some ⟨d, 0, none⟩), .int .i64 keep] w fun e w' => e = .returned (.tuple #[]) ∧ KoAt W w' d mb i m v safe rs := by
  obtain ⟨n, x, Ls, A, B, tt, h1, h2, h3, h4, h5, h6, h7, h8, h9, h10, h11⟩ := h
  refine (x_off W.heap.size d mb n x B keep w h1.at_.disk hk).mono ?_
  rintro e w' ⟨rfl, hd', hs'⟩
  have hlow : ∀ k, B k → W.heap.size ≤ k := fun k hb => h1.low k (.inr hb)
  refine ⟨rfl, n, _, Ls, B, tt, ⟨hd', ⟨keep, x.V, ?_, h1.log, h1.sy⟩, ?_, hs'.from_ h1.from_ hlow, hlow, fun k hb => Nat.lt_of_lt_of_le (h1.at_.ltB k hb) hs'.1.size, h1.tab⟩, ⟨rs.length, by rw [h2, List.take_length]⟩, h3, sown_keptK h4 hs'.1 (fun k hk => (h5 k hk).2), fun k hk => (h5 k hk).2, h6, ?_, h9, h10, h11⟩
  · unfold DSt.power
    rw [h1.on]
    rfl
  · unfold DSt.power
    rw [h1.on]
    exact h1.ok.1.1
  · unfold DSt.power
    rw [h1.on]
    exact h7
theorem ko_off {W w : World} {d mb i safe : Nat} {m : Int} {v : Sl} {tl : List (List Int)} (h : KoAt W w d mb i m v safe tl) (keep : Int) (hk : -9223372036854775808 ≤ keep ∧ keep ≤ 9223372036854775807) :
    Calls Tryz.prog 20 #[.pointer (some ⟨d, 0, none⟩), .int .i64 keep] w fun e w' => e = .returned (.tuple #[]) ∧ KoAt W w' d mb i m v safe tl := by
  obtain ⟨n, x, Ls, B, tt, h1, h2, h3, h4, h5, h6, h7, h8, h9, h10⟩ := h
  refine (x_off W.heap.size d mb n x B keep w h1.disk hk).mono ?_
  rintro e w' ⟨rfl, hd', hs'⟩
  have e1 : x.power keep = x := by
    obtain ⟨kp, V, e, _⟩ := h1.lost
    rw [e]
    rfl
  rw [e1] at hd'
  exact ⟨rfl, n, x, Ls, B, tt, ⟨hd', h1.lost, h1.wn, hs'.from_ h1.from_ h1.low, h1.low, fun k hb => Nat.lt_of_lt_of_le (h1.ltB k hb) hs'.1.size, h1.tab⟩, h2, h3, sown_keptK h4 hs'.1 h5, h5, h6, h7, h8, h9, h10⟩
/-- The power is on again. -/
def KnAt (W wr : World) (d mb i : Nat) (m : Int) (v : Sl) (safe : Nat) (tl : List (List Int)) : Prop := ∃ (n : Nat) (x : DSt) (Ls : Sg) (B : Nat → Prop) (tt : List Sl) (R : Nat),
  DS wr W.heap.size d mb n x B ∧ x.Calm ∧ PowerLog x.V dirX (tl.take R) Ls.length ∧ safe ≤ R ∧ R ≤ tl.length ∧ W.grownBy wr none ∧ (∀ k, B k → W.heap.size ≤ k) ∧ (∀ k, B k → k < wr.heap.size) ∧ Tab W ∧ ToldIn W tt tl ∧ SOwn slE 27 wr W.heap.size (slV v) tl.length tt ∧ (∀ k, (slV v).ownBlock = some k → ¬ B k) ∧ n ≤ i ∧ x.wn ≤ m ∧ Ls.length ≤ i ∧ tl.length ≤ i
theorem ko_on {W w : World} {d mb i safe : Nat} {m : Int} {v : Sl} {tl : List (List Int)} (h : KoAt W w d mb i m v safe tl) (hm : m ≤ 999999900) :
    Calls Tryz.prog 21 #[.pointer (some ⟨d, 0, none⟩)] w fun e w' => e = .returned (.tuple #[]) ∧ KnAt W w' d mb i m v safe tl := by
  obtain ⟨n, x, Ls, B, tt, h1, ⟨R1, h2⟩, h3, h4, h5, h6, h7, h8, h9, h10⟩ := h
  refine (x_on W.heap.size d mb n x B w h1.disk).mono ?_
  rintro e w' ⟨rfl, hd', hs'⟩
  obtain ⟨kp, V, ex, hlog, hsy⟩ := h1.lost
  obtain ⟨R, r1, r2, r3⟩ := power_log kp hlog hsy h10
  have hw0 := h1.wn
  have e2 : (recsOf Ls).take R = tl.take R := by
    rw [h2] at r2 ⊢
    rw [List.length_take] at r2
    rw [List.take_take, Nat.min_eq_left (by omega)]
  have hR : R ≤ tl.length := by
    rw [h2, List.length_take] at r2
    omega
  rw [e2] at r3
  refine ⟨rfl, n, { x with off := false }, Ls, B, tt, R, hd', ⟨rfl, ?_, ?_⟩, ?_, r1, hR, hs'.from_ h1.from_ h1.low, h1.low, fun k hb => Nat.lt_of_lt_of_le (h1.ltB k hb) hs'.1.size, h1.tab, h3, sown_keptK h4 hs'.1 h5, h5, h6, h7, h8, h9⟩
  · show x.set = false
    rw [ex]
  · refine ⟨⟨hw0, by show x.wn ≤ _; omega⟩, fun h => ?_, ?_⟩
    · exfalso
      have h' : x.set = true := h
      rw [ex] at h'
      cases h'
    · show -9223372036854775808 ≤ x.kp ∧ x.kp ≤ _
      rw [ex]
      exact ⟨by show (-9223372036854775808 : Int) ≤ 0; decide, by show (0 : Int) ≤ 9223372036854775807; decide⟩
  · show PowerLog x.V dirX _ _
    rw [ex]
    exact r3
/-- Open, and what it tells. -/
theorem kn_open {W w : World} {d mb i safe : Nat} {m : Int} {v : Sl} {tl : List (List Int)} (h : KnAt W w d mb i m v safe tl) (hi : i ≤ 1048574) (hm : m ≤ 999999900) :
    Calls Tryz.prog 13 #[.pointer (some ⟨d, 0, none⟩), .string dirX] w fun e w' => ∃ (p' : Nat) (v' : Sl) (mm lo R n' : Nat) (x' : DSt) (LL : Sg) (B' : Nat → Prop) (tt : List Sl), e = .returned (.tuple #[.pointer (some ⟨p', 0, none⟩), slV v', .int .i64 0]) ∧ De W w' d mb n' x' dirX none LL B' ∧ RecsLo lo w' (slV v') mm (tl.take R) ∧ recsOf LL = tl.take R ∧ safe ≤ R ∧ R ≤ tl.length ∧ n' ≤ i + 2 ∧ LL.length ≤ i ∧ ToldIn W tt tl ∧ SOwn slE 27 w' W.heap.size (slV v) tl.length tt := by
  obtain ⟨n, x, Ls, B, tt, R, h1, h2, h3, h4, h5, h6, h7, h8, h9, h10, h11, h12, h13, h14, h15, h16⟩ := h
  have hlen : (tl.take R).length ≤ i := by rw [List.length_take]; omega
  rcases h3 with ⟨LL, g1, g2, g3⟩ | ⟨Ls0, LL, kl, rl, tq, sl, g1, g2, g3, g4, g5⟩
  · have hDe : De W w d mb n x dirX none LL B := ⟨h1, g1, h2, h6, h7, h8, h9⟩
    have hrl : (cpRecs none ++ recsOf LL).length ≤ 4194304 := by show (([] : List (List Int)) ++ recsOf LL).length ≤ _; rw [g2, List.nil_append]; omega
    refine (s_open hDe dirX_ok (by omega) hrl (by omega)).mono ?_
    rintro e w' ⟨p', v', m', lo, A', rfl, k1, k2, k3, k4, k5⟩
    have k2' : RecsLo lo w' (slV v') m' (tl.take R) := by
      have e : cpRecs none ++ recsOf LL = tl.take R := g2
      rw [e] at k2
      exact k2
    exact ⟨p', v', m', lo, R, n, x, LL, B, tt, rfl, k1.de, k2', g2, h4, h5, by omega, by omega, h10, SOwn.kept (row := none) h11 k3 (own_none _)⟩
  · have hrl : (cpRecs none ++ recsOf LL).length ≤ 4194304 := by show (([] : List (List Int)) ++ recsOf LL).length ≤ _; rw [g4, List.nil_append]; omega
    have hLs0 : Ls0.length ≤ LL.length := by rw [g1.all]; simp
    by_cases hr0 : rl = []
    · have e0 : recsOf Ls0 = recsOf LL := by
        rw [g1.all, hr0]
        unfold recsOf
        rw [List.flatMap_append]
        simp
      refine (s_openD2 h1 g1 h2 h6 h7 h8 h9 dirX_ok (by omega) (by omega) g2 hr0 hrl (by omega)).mono ?_
      rintro e w' ⟨p', v', m', lo, n', x', B', rfl, k1, k2, k3, k4, k5, k6, k7⟩
      have k2' : RecsLo lo w' (slV v') m' (tl.take R) := by
        have e : cpRecs none ++ recsOf Ls0 = tl.take R := e0.trans g4
        rw [e] at k2
        exact k2
      exact ⟨p', v', m', lo, R, n', x', Ls0, B', tt, rfl, k1, k2', e0.trans g4, h4, h5, by omega, by omega, h10, sown_keptK h11 k5 h12⟩
    · refine (s_openT2 h1 g1 h2 h6 h7 h8 h9 dirX_ok (by omega) (by omega) g2 hr0 (by omega) hrl (by omega)).mono ?_
      rintro e w' ⟨p', v', m', lo, n', x', B', rfl, k1, k2, k3, k4, k5, k6, k7⟩
      have k2' : RecsLo lo w' (slV v') m' (tl.take R) := by
        have e : cpRecs none ++ recsOf LL = tl.take R := g4
        rw [e] at k2
        exact k2
      exact ⟨p', v', m', lo, R, n', x', LL, B', tt, rfl, k1, k2', g4, h4, h5, by omega, by omega, h10, sown_keptK h11 k5 h12⟩
/-- A beginning of what was told. -/
theorem told_reads {W w : World} {v : Sl} {tt : List Sl} {tl : List (List Int)} {R : Nat} (h : ToldIn W tt tl) (ho : SOwn slE 27 w W.heap.size (slV v) tl.length tt) (hf : W.grownBy w none) (hR : R ≤ tl.length) : Reads w v.1 (tt.take R) (tl.take R) ∧ v.2.1 = tl.length ∧ R ≤ v.2.2 ∧ v.2.2 ≤ 9223372036854775807 := by
  obtain ⟨va, vn, vc⟩ := v
  obtain ⟨_, _, e2⟩ := sownSl ho
  have e3 : vn = tl.length := by unfold slV at e2; injection e2
  subst e3
  have hcap := sown_cap ho
  have hcm : vc ≤ 9223372036854775807 := by
    rcases ho.2 with ⟨h', _⟩ | ⟨g, cap, cur, h', _, _, _, k4, _⟩
    · unfold slV at h'
      injection h' with _ _ e
      dsimp only at e
      omega
    · unfold slV at h'
      injection h' with _ _ e
      dsimp only at e
      unfold maxLen at k4
      omega
  refine ⟨⟨(sown_take ho R hR).rd, by rw [List.length_take, List.length_take, h.1], fun j t r ht hr => ?_⟩, rfl, by have := hcap.1; dsimp only at this ⊢; omega, hcm⟩
  have ht' : tt[j]? = some t := by
    rw [List.getElem?_take] at ht
    split at ht
    · exact ht
    · cases ht
  have hr' : tl[j]? = some r := by
    rw [List.getElem?_take] at hr
    split at hr
    · exact hr
    · cases hr
  have := h.2 j t r ht' hr'
  exact ⟨this.1, this.2.1.grown hf (by simp), this.2.2⟩
/-- The log is open over an empty disk, and that is armed. -/
theorem se_arm {W w : World} {d mb : Nat} {p : Nat} {A B : Nat → Prop} (h : Se W w d mb 0 x0 p dirX none [] A B) (w1 : World) (hg : w.grownBy w1 none) (ah kp : Int) (ha : 0 ≤ ah ∧ ah ≤ 9223372036854775807) (hk : -9223372036854775808 ≤ kp ∧ kp ≤ 9223372036854775807) :
    Calls Tryz.prog 14 #[.pointer (some ⟨d, 0, none⟩), .int .i64 ah, .int .i64 kp] w1 fun e w' => e = .returned (.tuple #[]) ∧ KuAt W w' d mb 0 (3 * (0 : Nat)) p (none, 0, 0) 0 [] [] := by
  have h1 := h.grown hg
  refine (x_arm W.heap.size d mb 0 x0 B ah kp w1 h1.at_.disk).mono ?_
  rintro e w' ⟨rfl, hd', hs'⟩
  obtain ⟨B'', hL, hS⟩ := h1.at_.write hd' hs'
  have ex : x0.arm ah kp = ⟨false, true, ah, kp, 0, fun _ => none⟩ := by
    unfold DSt.arm
    rw [if_neg (by omega)]
    rfl
  rw [ex] at hL
  exact ⟨rfl, 0, _, [], A, B'', [], ⟨hL, log0 dirX, .inl ⟨rfl, rfl⟩, rfl, ⟨⟨Int.le_refl _, by show (0 : Int) ≤ 1000000000; decide⟩, fun _ => ha, hk⟩, hS.from_ h1.from_ h1.low, hS.low h1.from_ h1.low, h1.tab⟩, rfl, ⟨rfl, fun i t r h => by simp at h⟩, SOwn.nil 27 _ _, (fun k hk => by cases hk), Nat.le_refl _, by show (0 : Int) ≤ 3 * ((0 : Nat) : Int); decide, by decide, by decide, by decide, fun q hq => (by cases hq)⟩
theorem elem28 : Tryz.prog.elem 28 = 27 := by simp [Program.elem, Tryz.underlying28]
theorem head28n (w : World) (a : Option Addr) (M C E : Nat) (h : E ≤ C) (hC : C ≤ 9223372036854775807) : (Instr.slice 28 (.slice a M C) none (some (.int .i64 (E : Int))) none).run Tryz.prog w = .ok (.slice a E C) w := by
  rw [run_slice_h w 28 _ M C (by rw [elem28]; exact Tryz.underlying28) .i64 (E : Int) (by omega) (by omega), elem28, Tryz.sizeOf27]
  cases a with
  | none => simp [sliced, Result.andThen]
  | some y => simp [sliced, Result.andThen, Addr.add]
end Go.Proofs.YtekejnjaiccnbaaGreatDoor

