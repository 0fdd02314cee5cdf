/- Several texts in one: Ln, Lp, Lq. -/
import Derived.Test.YtgpgkpciajajcaaGreatDoorGaw
import Derived.Test.YtgpgkpciajajcaaGreatDoorGbf
/- Package kv: keep, on a disk that may be armed. -/
namespace Go.Proofs.YtgpgkpciajajcaaGreatDoor
open Go.RowKit Go.Maps Go.Sort
set_option linter.unusedVariables false
set_option maxRecDepth 20000

theorem isOpen_mem {segs : List Nat} {op : Nat} (h : isOpen segs op = true) : op ∈ segs := by
  unfold isOpen at h
  simp at h
  exact List.mem_of_getLast? h
theorem roll_open {x : DSt} {dir : ByteArray} {op : Nat} (h : (rollX x dir op).2 ≤ op) : rollX x dir op = (x, op) := by
  unfold rollX at h ⊢
  cases hV : x.V (segN dir op) with
  | none => rfl
  | some q =>
    rw [hV] at h
    dsimp only at h ⊢
    by_cases hb : 4096 ≤ q.1.length
    · rw [if_pos hb] at h
      dsimp only at h
      omega
    · rw [if_neg hb]
theorem sy_all {V : Cont} {dir : ByteArray} {Ls : Sg} (h : Sy V dir Ls (recsOf Ls).length) : AllSy V dir Ls := by
  rcases h with ⟨rfl, _⟩ | ⟨L0, k, rl, j, rfl, h0, h1, hj, hs⟩
  · intro q hq
    cases hq
  · have e : (recsOf (L0 ++ [(k, rl)])).length = (recsOf L0).length + rl.length := by
      unfold recsOf
      rw [List.flatMap_append]
      simp
    have hjl : j = rl.length := by omega
    subst hjl
    rw [List.take_length] at h1
    intro q hq
    rcases List.mem_append.1 hq with hq | hq
    · exact h0 q hq
    · simp only [List.mem_singleton] at hq
      subst hq
      exact h1
/-- What stays where the power goes: the disk is off, and what stands on it tells one of two lists of records. -/
def LostD (W w : World) (d mb n : Nat) (A B : Nat → Prop) (ra rb : List (List Int)) (w' : World) : Prop := ∃ n' y A' B', n' ≤ n + 3 ∧ Cd W w' d mb n' y B' ∧ (∃ V, y = ⟨true, false, 0, 0, y.wn, V⟩) ∧ (0 ≤ y.wn ∧ y.wn ≤ 999999700) ∧ (Tells y.V dirK ra ∨ Tells y.V dirK rb) ∧ Step2 w w' A B A' B'
theorem lost_d {W w w' : World} {d mb n n' : Nat} {y : DSt} {K : Kp} {Ls Ls' : Sg} {zs : List Int} {A B A' B' : Nat → Prop} (hn : n' ≤ n + 3) (h : LoK W w' d mb n' y dirK K Ls' (recsOf Ls).length B') (he : Ls' = Ls ∨ Ls' = addL K Ls zs) (hg : ∀ q ∈ Ls, Good q) (hz : zs.length ≤ 65536) (hl : Ls.length ≤ 98) (hw : y.wn ≤ 999999700) (hs : Step2 w w' A B A' B') : LostD W w d mb n A B (cpRecs K ++ recsOf Ls) (cpRecs K ++ (recsOf Ls ++ [zs])) w' := by
  obtain ⟨kp, V, ey, hlog, hsy⟩ := h.lost
  have hln := addL_len K Ls zs
  have hg' : ∀ q ∈ Ls', Good q := by
    rcases he with rfl | rfl
    · exact hg
    · exact addL_good hg hz
  obtain ⟨R, h1, h2, h3⟩ := power_logK kp hlog hsy hg'
  have hT := tells_power h3 (by rcases he with rfl | rfl <;> omega)
  have eV : y.V = lostV kp V := by rw [ey]
  rw [← eV] at hT
  refine ⟨n', y, A', B', hn, ⟨h.disk, h.from_, h.low, h.ltB⟩, ⟨_, ey⟩, ⟨h.wn, hw⟩, ?_, hs⟩
  rcases he with rfl | rfl
  · rw [List.take_of_length_le (by omega)] at hT
    exact .inl hT
  · rw [recsOf_add] at hT h2
    rw [List.length_append, List.length_singleton] at h2
    by_cases hR : R = (recsOf Ls).length
    · rw [hR, List.take_left] at hT
      exact .inl hT
    · rw [List.take_of_length_le (by rw [List.length_append, List.length_singleton]; omega)] at hT
      exact .inr hT
/-- Append. -/
theorem sbK_append2 {W w : World} {d mb n : Nat} {x : DSt} {p : Nat} {dir : ByteArray} {K : Kp} {Ls : Sg} {safe : Nat} {A B : Nat → Prop} (h : SbK W w d mb n x p dir K Ls safe A B) (hdir : dirB dir = true) (a : Option Addr) (zs : List Int) (L cap : Nat) (hw : x.wn ≤ 999999900) (hop : openN K Ls < 99999998) (hn : n < 1048576) (hsg : Ls.length ≤ 4194304) (hr : Rd w a zs) (hL : zs.length = L) (hnil : a = none → cap = 0) (hz : L ≤ 65536) :
    Calls Tryz.prog 73 #[.pointer (some ⟨p, 0, none⟩), .slice a L cap] w fun e w' =>
      (e = .returned (.int .i64 0) ∧ ∃ n' x' A' B', n' + Ls.length ≤ n + (addL K Ls zs).length ∧ x'.wn ≤ x.wn + 2 ∧ SbK W w' d mb n' x' p dir K (addL K Ls zs) safe A' B' ∧ Step2 w w' A B A' B') ∨
      (e = .returned (.int .i64 60) ∧ ∃ n' x' Ls' A' B', n' ≤ n + 1 ∧ x'.wn ≤ x.wn + 2 ∧ LoK W w' d mb n' x' dir K Ls' safe B' ∧ (Ls' = Ls ∨ Ls' = addL K Ls zs) ∧ Step2 w w' A B A' B') := by
  have hfar := h.far
  have hw0 := h.ok.1.1
  have hfl : (frameR zs).length ≤ 65543 := by
    have hu : zs.length ≤ 65536 := by omega
    exact frame_len zs hu
  have hop9 : openN K Ls < 99999999 := by omega
  cases app_caseK (rec := zs) h.log h.on h.ok (by omega) (by omega) hop h.sy with
  | roll q hV hbig hs =>
    refine (w_appendP W.heap.size d mb n x p dir (cpName dir K) (Ls.map Prod.fst) (openN K Ls) A B a zs L cap w hdir hfar.1 hfar.2 h.at_ ⟨true, false, 0, 0, x.wn + 1, lostV x.kp x.V⟩ ?_ hr hL hnil hz h.from_.size).mono ?_
    · intro q' r' ad M cd W' ht' hL' hq' hqA hr' hrA hsr hM hM0 hby hb' had hadl
      exact w_append1PR W.heap.size d mb n x p q' r' dir _ _ _ A B ad zs M cd W' hdir ht' hfar.2 hL' h.on q hV hbig _ hs h.ok (by omega) hop hn (by rw [List.length_map]; exact hsg) hq' hqA hr' hrA hsr hM hM0 hby hb' had hadl
    · rintro e w' ⟨rfl, hl⟩
      obtain ⟨n', A', B', h1, h2, h3⟩ := lostK_lo h hl ⟨x.kp, x.V, rfl, h.log, h.sy⟩ (by dsimp only; omega)
      exact .inr ⟨rfl, n', _, Ls, A', B', h1, by dsimp only; omega, h2, .inl rfl, h3⟩
  | write c y hsy hon hok hap hy hwn segs op room =>
    rcases hy with ⟨rfl, y1, y2, y3, y4⟩ | ⟨rfl, kp, V, wn, ey, y3, y4⟩
    · have e2 : appX x dir (openN K Ls) zs = y := by unfold appX; rw [hap]
      by_cases ho : isOpen (Ls.map Prod.fst) (rollX x dir (openN K Ls)).2 = true
      · have hmem := isOpen_mem ho
        have hle := openN_leK h.log _ hmem
        have hro := roll_open hle
        have hVs : ((rollX x dir (openN K Ls)).1.V (segN dir (rollX x dir (openN K Ls)).2)).isSome = true := by
          rw [hro] at hmem ⊢
          refine h.log.seen ?_
          unfold namesL
          exact List.mem_append.2 (.inr (List.mem_append.2 (.inr (List.mem_map.2 ⟨_, hmem, rfl⟩))))
        refine (w_appendAE W.heap.size d mb n x p dir (cpName dir K) (Ls.map Prod.fst) (openN K Ls) A B a zs L cap w hdir hfar.1 hfar.2 h.at_ h.on hsy hon hok hVs (by rw [hap]) h.ok (by omega) hop hn (by rw [List.length_map]; exact hsg) hr hL hnil hz (by omega) h.from_.size).mono ?_
        rintro e w' ⟨rfl, n', A', B', hn', hL', hS'⟩
        have hlen : Ls.length ≤ (addL K Ls zs).length := by
          have := congrArg List.length segs
          unfold segsX at this
          rw [if_pos ho, List.length_map, List.length_map] at this
          omega
        rw [segs, op, e2] at hL'
        exact .inl ⟨rfl, n', y, A', B', by omega, hwn.2, ⟨hL', y3, y4, y1, y2, hS'.from_ h.from_ h.low, hS'.low h.from_ h.low, h.tab⟩, hS'⟩
      · refine (w_appendA W.heap.size d mb n x p dir (cpName dir K) (Ls.map Prod.fst) (openN K Ls) A B a zs L cap w hdir hfar.1 hfar.2 h.at_ h.on hsy hon hok (by rw [hap]) h.ok (by omega) hop hn (by rw [List.length_map]; exact hsg) hr hL hnil hz (by omega) h.from_.size).mono ?_
        rintro e w' ⟨rfl, n', A', B', hn', hL', hS'⟩
        have hlen : (addL K Ls zs).length = Ls.length + 1 := by
          have := congrArg List.length segs
          unfold segsX at this
          rw [if_neg ho, List.length_append, List.length_map, List.length_map, List.length_singleton] at this
          omega
        rw [segs, op, e2] at hL'
        exact .inl ⟨rfl, n', y, A', B', by omega, hwn.2, ⟨hL', y3, y4, y1, y2, hS'.from_ h.from_ h.low, hS'.low h.from_ h.low, h.tab⟩, hS'⟩
    · refine (w_appendP W.heap.size d mb n x p dir (cpName dir K) (Ls.map Prod.fst) (openN K Ls) A B a zs L cap w hdir hfar.1 hfar.2 h.at_ y ?_ hr hL hnil hz h.from_.size).mono ?_
      · intro q' r' ad M cd W' ht' hL' hq' hqA hr' hrA hsr hM hM0 hby hb' had hadl
        exact w_append1PW W.heap.size d mb n x p q' r' dir _ _ _ A B ad zs M cd W' hdir ht' hfar.2 hL' h.on hsy hon hok y hap h.ok (by omega) hop hn (by rw [List.length_map]; exact hsg) hq' hqA hr' hrA hsr hM hM0 hby (by omega) hb' had hadl
      · rintro e w' ⟨rfl, hl⟩
        obtain ⟨n', A', B', h1, h2, h3⟩ := lostK_lo (Ls' := addL K Ls zs) h hl ⟨kp, V, by rw [ey], y3, y4⟩ (by omega)
        exact .inr ⟨rfl, n', y, _, A', B', h1, hwn.2, h2, .inr rfl, h3⟩
/-- What keep leaves where it is done. -/
def KeepB (W w : World) (d mb n : Nat) (x : DSt) (p : Nat) (K : Kp) (Ls : Sg) (A B : Nat → Prop) (zs : List Int) (w' : World) : Prop := ∃ n' x' A' B', n' + Ls.length ≤ n + (addL K Ls zs).length ∧ x'.wn ≤ x.wn + 3 ∧ SbK W w' d mb n' x' p dirK K (addL K Ls zs) (recsOf (addL K Ls zs)).length A' B' ∧ Step2 w w' A B A' B'
theorem k_keepB {W w : World} {d mb n : Nat} {x : DSt} {p : Nat} {K : Kp} {Ls : Sg} {A B : Nat → Prop} (h : SbK W w d mb n x p dirK K Ls (recsOf Ls).length A B) (hgd : ∀ q ∈ Ls, Good q) (sb : Nat) (y0 z0 : Value) (hs : TriAt w sb (.pointer (some ⟨p, 0, none⟩)) y0 z0) (hsb : ¬ (A sb ∨ B sb)) (a : Option Addr) (zs : List Int) (L cap : Nat) (hw : x.wn ≤ 999999600) (hop : openN K Ls < 99999997) (hn : n < 1048570) (hsg : Ls.length ≤ 98) (hr : Rd w a zs) (hL : zs.length = L) (hnil : a = none → cap = 0) (hz : L ≤ 65536) :
    Calls Tryz.prog 44 #[.pointer (some ⟨sb, 0, none⟩), .slice a L cap] w fun e w' => (e = .returned (.int .i64 0) ∧ KeepB W w d mb n x p K Ls A B zs w') ∨ (e = .returned (.int .i64 60) ∧ LostD W w d mb n A B (cpRecs K ++ recsOf Ls) (cpRecs K ++ (recsOf Ls ++ [zs])) w') := by
  have hcc := calmed_calm x h.ok
  have hadd := log_add (x := x.calmed) (rec := zs) h.log hcc (by show x.wn ≤ _; omega) (by omega) (by omega)
  have hop2 : openN K (addL K Ls zs) ≤ openN K Ls + 1 := by
    rw [← hadd.op]
    exact rollX_le _ dirK (openN K Ls)
  have hln := addL_len K Ls zs
  have HA := sbK_append2 h dirK_ok a zs L cap (by omega) (by omega) (by omega) (by omega) hr hL hnil hz
  have HX : Hid (Calls Tryz.prog 73 #[.pointer (some ⟨p, 0, none⟩), .slice a L cap] w fun e w' => (e = .returned (.int .i64 0) ∧ TriAt w' sb (.pointer (some ⟨p, 0, none⟩)) y0 z0 ∧ (Calls Tryz.prog 74 #[.pointer (some ⟨p, 0, none⟩)] w' fun e w'' => ((e = .returned (.int .i64 0) ∧ KeepB W w d mb n x p K Ls A B zs w'') ∨ (e = .returned (.int .i64 60) ∧ LostD W w d mb n A B (cpRecs K ++ recsOf Ls) (cpRecs K ++ (recsOf Ls ++ [zs])) w'')))) ∨ (e = .returned (.int .i64 60) ∧ LostD W w d mb n A B (cpRecs K ++ recsOf Ls) (cpRecs K ++ (recsOf Ls ++ [zs])) w')) := by
    refine HA.mono ?_
    rintro e w1 (⟨rfl, n1, x1, A1, B1, k1, k2, k3, k4⟩ | ⟨rfl, n1, x1, Ls', A1, B1, k1, k2, k3, k5, k4⟩)
    · left
      refine ⟨rfl, hs.stay (k4.kept.block sb hs.lt hsb), ?_⟩
      refine (sbK_sync k3 dirK_ok (by omega) (by omega) (by omega)).mono ?_
      rintro e w2 (⟨rfl, n2, x2, B2, q1, q2, q3, q4⟩ | ⟨rfl, n2, x2, A2, B2, q1, q2, q3, q4⟩)
      · exact .inl ⟨rfl, n2, x2, A1, B2, by omega, by omega, q3, k4.trans q4⟩
      · exact .inr ⟨rfl, lost_d (Ls' := addL K Ls zs) (by omega) q3 (.inr rfl) hgd (by omega) hsg (by omega) (k4.trans q4)⟩
    · exact .inr ⟨rfl, lost_d (by omega) k3 k5 hgd (by omega) hsg (by omega) k4⟩
  have c0 := hs.c0
  clear h hs hsb hr hadd hop2 hln HA hnil hgd hcc
  go_enter Tryz.func44, Tryz.ntmps44
  go_wp2_with fail
  refine HX.out.mono ?_
  rintro e w1 (⟨rfl, ht, hc⟩ | ⟨rfl, hl⟩)
  · have c0' := ht.c0
    have HC : Hid (Calls Tryz.prog 74 #[.pointer (some ⟨p, 0, none⟩)] w1 fun e w'' => ((e = .returned (.int .i64 0) ∧ KeepB W w d mb n x p K Ls A B zs w'') ∨ (e = .returned (.int .i64 60) ∧ LostD W w d mb n A B (cpRecs K ++ recsOf Ls) (cpRecs K ++ (recsOf Ls ++ [zs])) w''))) := hc
    clear ht hc HX
    go_wp2_with fail
    refine HC.out.mono ?_
    rintro e w2 (⟨rfl, hx⟩ | ⟨rfl, hx⟩)
    · have HE : Hid (KeepB W w d mb n x p K Ls A B zs w2) := hx
      clear hx HC
      go_wp2
      go_ret
      exact .inl ⟨rfl, HE.out⟩
    · have HE : Hid (LostD W w d mb n A B (cpRecs K ++ recsOf Ls) (cpRecs K ++ (recsOf Ls ++ [zs])) w2) := hx
      clear hx HC
      go_wp2
      go_ret
      exact .inr ⟨rfl, HE.out⟩
  · have HE : Hid (LostD W w d mb n A B (cpRecs K ++ recsOf Ls) (cpRecs K ++ (recsOf Ls ++ [zs])) w1) := hl
    clear hl HX
    go_wp2
    go_ret
    exact .inr ⟨rfl, HE.out⟩
end Go.Proofs.YtgpgkpciajajcaaGreatDoor

/- Package kv: shorten and forget, on a disk that may be armed. -/
namespace Go.Proofs.YtgpgkpciajajcaaGreatDoor
open Go.RowKit Go.Maps Go.Sort
set_option linter.unusedVariables false
set_option maxRecDepth 20000

/-- forget. -/
theorem k_forget (w : World) (sb : Nat) (x y z : Value) (c : Int) (h : TriAt w sb x y z) : Calls Tryz.prog 45 #[.pointer (some ⟨sb, 0, none⟩), .int .i64 c] w fun e w' => e = .returned (.int .i64 c) ∧ w.grownBy w' (some sb) := by
  have c2 := h.c2
  have f2 := h.f 2
  clear h
  go_enter Tryz.func45, Tryz.ntmps45
  go_wp2
  go_ret
  exact ⟨rfl, gb_set rfl⟩
set_option maxHeartbeats 8000000 in
/-- shorten of a log of too many segments, by what Cut does. -/
theorem k_shortenG {w : World} {d p m : Nat} {cp : ByteArray} {Ls : Sg} {op : Nat} {A : Nat → Prop} {F : ByteArray → Option Reg} (h : WalA w p d dirK cp (Ls.map Prod.fst) op A) (sb mr : Nat) (y0 : Value) (hs : TriAt w sb (.pointer (some ⟨p, 0, none⟩)) y0 (.map (some mr))) (hm : RegIs w mr m F) (hF : ∀ s r, F s = some r → RegOk s r ∧ (recL s r).length ≤ 65536) (hseg : 64 < Ls.length) (hm4 : m ≤ 4194304) (P : Int → World → Prop) (hcut : ∀ (l : List ByteArray) (w1 : World) (ka : Option Addr) (kn kc : Nat) (ts : List Sl), KeysOf F ⟨#[]⟩ l → l.length ≤ m → w.grownBy w1 none → KeepIs w1 ka ts (recsL (allR F l)) → (recsL (allR F l)).length = kn → kn ≤ 4194304 → (∀ r ∈ recsL (allR F l), r.length ≤ 65536) → Calls Tryz.prog 76 #[.pointer (some ⟨p, 0, none⟩), .slice ka kn kc] w1 fun e w' => ∃ c, e = .returned (.int .i64 c) ∧ P c w') :
    Calls Tryz.prog 46 #[.pointer (some ⟨sb, 0, none⟩)] w fun e w' => ∃ c, e = .returned (.int .i64 c) ∧ P c w' := by
  have HS := w_segments w p d dirK _ _ _ A h
  rw [List.length_map] at HS
  obtain ⟨L, eL⟩ : ∃ L, L = Ls.length := ⟨_, rfl⟩
  have EL : Hid (L = Ls.length) := eL
  rw [← eL] at HS hseg
  have HS' : Hid (Calls Tryz.prog 75 #[.pointer (some ⟨p, 0, none⟩)] w fun e w' => e = .returned (.int .i64 (L : Int)) ∧ w = w') := HS
  have q1 : decide ((L : Int) ≤ 64) = false := by simp; omega
  have HK : Hid (Calls Tryz.prog 68 #[.pointer (some ⟨sb, 0, none⟩), .string ⟨#[]⟩] w fun e w' => ∃ a c l, e = .returned (.slice a l.length c) ∧ SOwn strE 9 w' w.heap.size (.slice a l.length c) l.length l ∧ w.grownBy w' none ∧ KeysOf F ⟨#[]⟩ l ∧ l.length ≤ m) := k_keys sb mr m _ _ F ⟨#[]⟩ w hs hm hm4
  have c0 := hs.c0
  have HCT : Hid (∀ (l : List ByteArray) (w1 : World) (ka : Option Addr) (kn kc : Nat) (ts : List Sl), KeysOf F ⟨#[]⟩ l → l.length ≤ m → w.grownBy w1 none → KeepIs w1 ka ts (recsL (allR F l)) → (recsL (allR F l)).length = kn → kn ≤ 4194304 → (∀ r ∈ recsL (allR F l), r.length ≤ 65536) → Calls Tryz.prog 76 #[.pointer (some ⟨p, 0, none⟩), .slice ka kn kc] w1 fun e w' => ∃ c, e = .returned (.int .i64 c) ∧ P c w') := hcut
  have HT : Hid (TriAt w sb (.pointer (some ⟨p, 0, none⟩)) y0 (.map (some mr))) := hs
  have HM : Hid (RegIs w mr m F) := hm
  have HF : Hid (∀ s r, F s = some r → RegOk s r ∧ (recL s r).length ≤ 65536) := hF
  clear h hs hm hF hcut HS eL
  go_enter Tryz.func46, Tryz.ntmps46
  go_wp2_with fail
  refine HS'.out.mono ?_
  rintro e w1 ⟨rfl, rfl⟩
  go_wp2_with fail
  refine HK.out.mono ?_
  rintro e w1 ⟨ka, kc, l, rfl, hso, hg1, hko, hlm⟩
  obtain ⟨Nk, eN⟩ : ∃ N, N = l.length := ⟨_, rfl⟩
  rw [← eN] at hso hlm ⊢
  have EN : Hid (Nk = l.length) := eN
  have HSO : Hid (SOwn strE 9 w1 w.heap.size (.slice ka Nk kc) Nk l) := hso
  have HG1 : Hid (w.grownBy w1 none) := hg1
  have HKO : Hid (KeysOf F ⟨#[]⟩ l) := hko
  clear hso hg1 hko HK HS' eN
  go_wp2_with fail
  go_loopw [3, 15] (fun t3 t15 wr => ∃ (i : Nat) (ts : List Sl) (va : Option Addr) (vc : Nat), i ≤ Nk ∧ t3 = .slice va i vc ∧ t15 = .int .i64 i ∧ SOwn slE 37 wr w1.heap.size (.slice va i vc) i ts ∧ RecsAt wr w1.heap.size (Value.ownBlock (.slice va i vc)) ts ((recsL (allR F l)).take i) ∧ w1.grownBy wr none) (fun _ t15 _ => Nk - (intOf t15).toNat)
  case atStart => exact ⟨0, [], none, 0, Nat.zero_le _, rfl, rfl, SOwn.nil 37 _ _, trivial, World.grownBy.refl _ _⟩
  case round =>
    obtain ⟨i, ts, va, vc, hi, rfl, rfl, hso, hre, hg⟩ := hrel
    have HSR : Hid (SOwn slE 37 wr w1.heap.size (.slice va i vc) i ts) := hso
    have HRE : Hid (RecsAt wr w1.heap.size (Value.ownBlock (.slice va i vc)) ts ((recsL (allR F l)).take i)) := hre
    have HG : Hid (w1.grownBy wr none) := hg
    have hT := (HT.out.grown HG1.out).grown hg
    have hM := (HM.out.kept HG1.out (by simp)).kept hg (by simp)
    have HLW : Hid (w1.heap.size ≤ wr.heap.size) := hg.size
    by_cases hlt : i < Nk
    · have hii : (i : Int) < (Nk : Int) := by omega
      obtain ⟨s, hs⟩ : ∃ s, l[i]? = some s := ⟨_, List.getElem?_eq_getElem (by rw [← EN.out]; exact hlt)⟩
      obtain ⟨b, off, e1, hc⟩ := (SOwn.rd HSO.out).at (by rw [← EN.out]; omega)
      have hcell : wr.cell? ⟨b, off + i, none⟩ = some (.string s) := by
        have := hc i s 0 _ hs rfl
        exact hg.cell (by simpa [strE] using this) (by simp)
      subst e1
      have hFs : (F s).isSome = true := ((HKO.out.2.2 s).1 (List.mem_of_getElem? hs)).1
      obtain ⟨r, hr⟩ := Option.isSome_iff_exists.1 hFs
      obtain ⟨rv, rd⟩ := r
      obtain ⟨hok, hrl⟩ := HF.out s _ hr
      have hlook : (Instr.lookup 66 (.map (some mr)) (.string s) false).run Tryz.prog wr = .ok (.agg #[.int .u64 (rv : Int), .string rd]) wr := by
        have := hM.look s hok.key.2
        rw [hr] at this
        exact this
      have c2 := hT.c2
      have HLY : Hid (Calls Tryz.prog 43 #[.agg #[.int .u64 (rv : Int), .string rd], .string s] wr fun e w' => ∃ g c N, e = .returned (.slice (some ⟨g, 0, none⟩) N c) ∧ Own w' wr.heap.size g N c (recL s (rv, rd)) ∧ wr.grownBy w' none) := k_lay s rv rd wr hok.key.2 hok.ver.2 (by have := hok.size; dsimp only at this; omega)
      have HTK : Hid ((recsL (allR F l)).take (i + 1) = (recsL (allR F l)).take i ++ [recL s (rv, rd)]) := by
        show _ = _
        rw [List.take_add_one, allR_get hs, hr]
        rfl
      clear hT hM hok hrl hr hFs hc hs hso hre hg
      go_wp2_with fail
      refine HLY.out.mono ?_
      rintro e w2 ⟨g, c, RN, rfl, hown, hg2⟩
      have HOW : Hid (Own w2 wr.heap.size g RN c (recL s (rv, rd))) := hown
      have HG2 : Hid (wr.grownBy w2 none) := hg2
      have hsz : w1.heap.size ≤ w2.heap.size + 1 := by have := hg2.size; have := HLW.out; omega
      have HSO2 : Hid (SOwn slE 37 (w2.alloc (.cells #[.slice (some ⟨g, 0, none⟩) RN c] 37)) w1.heap.size (.slice va i vc) i ts) := SOwn.kept HSR.out (hg2.trans (World.grownBy_alloc w2 _ none)) (by cases va <;> simp [Value.ownBlock])
      clear hown hg2 HLY
      go_wp2_with (at_builtin; refine wpList_append_t slET rfl (.tmp 19) (.tmp 28) rfl w1.heap.size (.slice va i vc) i ts rfl HSO2.out ⟨w2.heap.size, 0, none⟩ [(some ⟨g, 0, none⟩, RN, c)] 1 1 rfl rfl (sllit w2 [(some ⟨g, 0, none⟩, RN, c)]) (by omega) (by omega) (by unfold maxLen; omega) (by rw [show ((w2.alloc (.cells #[.slice (some ⟨g, 0, none⟩) RN c] 37)).heap.size) = w2.heap.size + 1 from Array.size_push _]; exact hsz) ?_; intro g3 k3 w3 ho3 hg3 hgg; have HO3 : Hid (SOwn slE 37 w3 w1.heap.size (.slice (some ⟨g3, 0, none⟩) (i + 1) k3) (i + 1) (ts ++ [(some ⟨g, 0, none⟩, RN, c)])) := ho3; have HG3 : Hid ((w2.alloc (.cells #[.slice (some ⟨g, 0, none⟩) RN c] 37)).grownBy w3 (Value.ownBlock (.slice va i vc))) := hg3; have HGG : Hid (Value.ownBlock (.slice va i vc) = some g3 ∨ g3 = (w2.alloc (.cells #[.slice (some ⟨g, 0, none⟩) RN c] 37)).heap.size) := hgg; clear ho3 hg3 hgg)
      go_roundw
      case rel =>
        refine ⟨i + 1, ts ++ [(some ⟨g, 0, none⟩, RN, c)], some ⟨g3, 0, none⟩, k3, by omega, by go_num, by go_num, HO3.out, ?_, ?_⟩
        · rw [HTK.out]
          have hal := World.grownBy_alloc w2 (.cells #[.slice (some ⟨g, 0, none⟩) RN c] 37) none
          have hbl := HSR.out.block
          have hsa : (w2.alloc (.cells #[.slice (some ⟨g, 0, none⟩) RN c] 37)).heap.size = w2.heap.size + 1 := Array.size_push _
          have ho : ∀ k', Value.ownBlock (.slice (some ⟨g3, 0, none⟩) (i + 1) k3) = some k' → (w2.alloc (.cells #[.slice (some ⟨g, 0, none⟩) RN c] 37)).heap.size ≤ k' ∨ Value.ownBlock (.slice va i vc) = some k' := fun k' hk => by
            have e : g3 = k' := Option.some.inj hk
            subst e
            rcases HGG.out with h | h
            · exact .inr h
            · exact .inl (Nat.le_of_eq h.symm)
          refine RecsAt.app ((HRE.out.kept (HG2.out.trans hal) (fun k hk => by cases hk)).step HG3.out ho) ⟨?_, trivial⟩
          have hge := HOW.out.ge
          refine ⟨HOW.out.len.symm, by rw [HOW.out.len]; exact HOW.out.cap.1, (fun e => by cases e), ?_, ?_⟩
          · refine rd_block HOW.out.rd (fun hr x hx => ?_)
            cases hx
            rw [HG3.out.block g (by omega) (fun e => by have h1 := (hbl _ e.symm).2; omega)]
            exact hal.block g hge.2 (by simp)
          · intro hr x hx
            cases hx
            refine ⟨Nat.le_trans HLW.out hge.1, fun e => ?_⟩
            have e' : g = g3 := Option.some.inj e
            rcases HGG.out with h | h
            · have h1 := (hbl _ h).2
              omega
            · omega
        · exact gb_trans (gb_trans (HG.out.trans HG2.out) (World.grownBy_alloc w2 _ none) (fun k hk => by cases hk)) HG3.out (fun k hk => .inl (HSR.out.block k hk).1)
      case measure => simp [intOf]; omega
    · have hii : ¬ (i : Int) < (Nk : Int) := by omega
      have hiN : i = Nk := by omega
      subst hiN
      have hlen : (recsL (allR F l)).length = i := by rw [recsL_len, EN.out]; unfold allR; simp
      have hall : ∀ r ∈ recsL (allR F l), r.length ≤ 65536 := by
        intro r hr
        unfold recsL allR at hr
        rw [List.map_map, List.mem_map] at hr
        obtain ⟨s, hs, rfl⟩ := hr
        obtain ⟨q, hq⟩ := Option.isSome_iff_exists.1 ((HKO.out.2.2 s).1 hs).1
        show (recL s ((F s).getD reg0)).length ≤ 65536
        rw [hq]
        exact (HF.out s q hq).2
      have hre2 : RecsAt wr w1.heap.size (Value.ownBlock (.slice va i vc)) ts (recsL (allR F l)) := by
        have h5 := hre
        rw [List.take_of_length_le (by omega)] at h5
        exact h5
      have hgw := HG1.out.trans hg
      have HCUT : Hid (Calls Tryz.prog 76 #[.pointer (some ⟨p, 0, none⟩), .slice va i vc] wr fun e w' => ∃ c, e = .returned (.int .i64 c) ∧ P c w') :=
        HCT.out l wr va i vc ts HKO.out (by rw [← EN.out]; exact hlm) hgw (recsAt_keep hso hre2 hall) hlen (by omega) hall
      have c0' := hT.c0
      clear hso hre hre2 hall hlen hgw hT hM hg HCT
      go_wp2_with fail
      refine HCUT.out.mono ?_
      rintro e w3 ⟨c, rfl, hp⟩
      have HE : Hid (P c w3) := hp
      clear hp HCUT
      go_wp2
      go_ret
      exact ⟨c, rfl, HE.out⟩
end Go.Proofs.YtgpgkpciajajcaaGreatDoor

/- Package kv: Set, on a disk that may be armed. -/
namespace Go.Proofs.YtgpgkpciajajcaaGreatDoor
open Go.RowKit Go.Maps Go.Sort
set_option linter.unusedVariables false
set_option maxRecDepth 20000

theorem SbK.others {W w w' : World} {d mb n : Nat} {x : DSt} {p : Nat} {dir : ByteArray} {K : Kp} {Ls : Sg} {safe : Nat} {A B X : Nat → Prop} (h : SbK W w d mb n x p dir K Ls safe A B) (hk : Kept w w' X) (hX : ∀ k, A k ∨ B k → ¬ X k) (hW : ∀ k, X k → W.heap.size ≤ k) : SbK W w' d mb n x p dir K Ls safe A B :=
  ⟨⟨h.at_.disk.others hk (fun k hb => hX k (.inr hb)), h.at_.wal.kept hk (fun k ha => hX k (.inl ha)), h.at_.apart, fun k hb => Nat.lt_of_lt_of_le (h.at_.ltB k hb) hk.size, fun k ha => Nat.lt_of_lt_of_le (h.at_.ltA k ha) hk.size⟩, h.log, h.sy, h.on, h.ok,
    ⟨hk.os.trans h.from_.os, hk.tape.trans h.from_.tape, hk.output.trans h.from_.output, Nat.le_trans h.from_.size hk.size, fun k hk1 _ => (hk.block k (Nat.lt_of_lt_of_le hk1 h.from_.size) (fun hx => by have := hW k hx; omega)).trans (h.from_.block k hk1 (by simp))⟩, h.low, h.tab⟩
/-- A store over its log, on a disk that may be armed; all is synced. -/
structure KvB (W w : World) (d mb n : Nat) (x : DSt) (sb p mr m : Nat) (K : Kp) (Ls : Sg) (A B : Nat → Prop) (F : ByteArray → Option Reg) (rs : List (ByteArray × Reg)) : Prop where
  se : SbK W w d mb n x p dirK K Ls (recsOf Ls).length A B
  good : ∀ q ∈ Ls, Good q
  row : TriAt w sb (.pointer (some ⟨p, 0, none⟩)) (.pointer (some ⟨d, 0, none⟩)) (.map (some mr))
  map : RegIs w mr m F
  says : regs rs = F
  recs : cpRecs K ++ recsOf Ls = recsL rs
  ok : AllOk rs
  sb_ : ¬ (A sb ∨ B sb) ∧ W.heap.size ≤ sb
  mr_ : ¬ (A mr ∨ B mr) ∧ W.heap.size ≤ mr
theorem KvB.grown {W w w' : World} {d mb n : Nat} {x : DSt} {sb p mr m : Nat} {K : Kp} {Ls : Sg} {A B : Nat → Prop} {F : ByteArray → Option Reg} {rs : List (ByteArray × Reg)} (h : KvB W w d mb n x sb p mr m K Ls A B F rs) (hg : w.grownBy w' none) : KvB W w' d mb n x sb p mr m K Ls A B F rs :=
  ⟨h.se.grown hg, h.good, h.row.grown hg, h.map.kept hg (by simp), h.says, h.recs, h.ok, h.sb_, h.mr_⟩
/-- What stays where the power goes in a call of the store. -/
def LostR (W w : World) (d mb n : Nat) (A B : Nat → Prop) (F1 F2 : ByteArray → Option Reg) (w' : World) : Prop := ∃ n' y A' B' rs1, n' ≤ n + 3 ∧ Cd W w' d mb n' y B' ∧ (∃ V, y = ⟨true, false, 0, 0, y.wn, V⟩) ∧ (0 ≤ y.wn ∧ y.wn ≤ 999999700) ∧ Tells y.V dirK (recsL rs1) ∧ AllOk rs1 ∧ rs1.length ≤ 4194304 ∧ (regs rs1 = F1 ∨ regs rs1 = F2) ∧ Step2 w w' A B A' B'
/-- What shorten leaves where it is done. -/
def ShortB (W w : World) (d mb n : Nat) (x : DSt) (sb p mr m : Nat) (K : Kp) (Ls : Sg) (A B : Nat → Prop) (F : ByteArray → Option Reg) (rs : List (ByteArray × Reg)) (w' : World) : Prop := ∃ n' x' K' Ls' B' rs', x'.wn ≤ x.wn + 4 + Ls.length ∧ KvB W w' d mb n' x' sb p mr m K' Ls' A B' F rs' ∧ ((K' = K ∧ Ls' = Ls ∧ n' = n ∧ Ls.length ≤ 64) ∨ (64 < Ls.length ∧ openN K' Ls' = openN K Ls + 1 ∧ Ls' = [] ∧ n' ≤ n + 2)) ∧ rs'.length ≤ max rs.length m ∧ Step2 w w' A B A B'
theorem k_shortB {W w : World} {d mb n : Nat} {x : DSt} {sb p mr m : Nat} {K : Kp} {Ls : Sg} {A B : Nat → Prop} {F : ByteArray → Option Reg} {rs : List (ByteArray × Reg)} (h : KvB W w d mb n x sb p mr m K Ls A B F rs) (hln : Ls.length ≤ 90) (hw : x.wn ≤ 999999500) (hop : openN K Ls < 99999998) (hn : n < 1048570) (hm4 : m ≤ 4194304) (hrs : rs.length ≤ 4194304) (hsz : CutRoom F) :
    Calls Tryz.prog 46 #[.pointer (some ⟨sb, 0, none⟩)] w fun e w' => ∃ c, e = .returned (.int .i64 c) ∧ ((c = 0 ∧ ShortB W w d mb n x sb p mr m K Ls A B F rs w') ∨ (c = 60 ∧ LostR W w d mb n A B F F w')) := by
  by_cases hl : Ls.length ≤ 64
  · refine (k_short h.se.at_.wal sb _ _ h.row (by rw [List.length_map]; exact hl)).mono ?_
    rintro e w' ⟨rfl, rfl⟩
    exact ⟨0, rfl, .inl ⟨rfl, n, x, K, Ls, B, rs, by omega, h, .inl ⟨rfl, rfl, rfl, hl⟩, by omega, Step2.grown A B (World.grownBy.refl _ _)⟩⟩
  · have hF : ∀ s r, F s = some r → RegOk s r ∧ (recL s r).length ≤ 65536 := by
      rw [← h.says]
      exact regs_ok h.ok
    have hsl := h.row.lt
    have hml := h.map.lt
    refine k_shortenG h.se.at_.wal sb mr _ h.row h.map hF (by omega) hm4 _ (fun l w1 ka kn kc ts hko hlm hg hk hkn hk4 hall => ?_)
    refine (sbK_cut (h.se.grown hg) dirK_ok (sy_all h.se.sy.2) ka kn kc ts (recsL (allR F l)) (by omega) hop (by omega) (by omega) hk hkn hk4 (hsz l hko) hall).mono ?_
    have hg2 := Step2.grown A B hg
    rintro e w' (⟨rfl, n', x', B', k1, k2, k5, k6⟩ | ⟨rfl, n', y, B', k1, k2, k3, k4, k5, k7, k6⟩)
    · refine ⟨0, rfl, .inl ⟨rfl, n', x', some (openN K Ls, recsL (allR F l)), [], B', allR F l, k2, ⟨k5, fun q hq => (by cases hq), (h.row.grown hg).stay (k6.kept.block sb (Nat.lt_of_lt_of_le hsl hg.size) h.sb_.1), (h.map.kept hg (by simp)).stay (k6.kept.block mr (Nat.lt_of_lt_of_le hml hg.size) h.mr_.1), regs_all hko, ?_, allR_ok hko hF, ⟨fun hx => h.sb_.1 (hx.imp id (fun hb => k6.oldB sb (Nat.lt_of_lt_of_le hsl hg.size) hb)), h.sb_.2⟩, ⟨fun hx => h.mr_.1 (hx.imp id (fun hb => k6.oldB mr (Nat.lt_of_lt_of_le hml hg.size) hb)), h.mr_.2⟩⟩, .inr ⟨by omega, by rw [openN_nil]; rfl, rfl, k1⟩, by rw [allR_len]; omega, hg2.trans k6⟩⟩
      show recsL (allR F l) ++ recsOf [] = _
      simp [recsOf]
    · refine ⟨60, rfl, .inr ⟨rfl, ?_⟩⟩
      rcases tells_cut k7 (by omega) with hT | hT
      · rw [h.recs] at hT
        exact ⟨n', y, A, B', rs, by omega, k2, k5, ⟨k3, by omega⟩, hT, h.ok, hrs, .inl h.says, hg2.trans k6⟩
      · exact ⟨n', y, A, B', allR F l, by omega, k2, k5, ⟨k3, by omega⟩, hT, allR_ok hko hF, by rw [allR_len]; omega, .inl (regs_all hko), hg2.trans k6⟩
/-- Behind keep, and with the register in the map. -/
theorem k_midB {W w w4 w5 w6 : World} {d mb n n1 : Nat} {x x1 : DSt} {sb p mr m : Nat} {K : Kp} {Ls : Sg} {A B A1 B1 : Nat → Prop} {F : ByteArray → Option Reg} {rs : List (ByteArray × Reg)} {k : ByteArray} {r : Reg} (h : KvB W w d mb n x sb p mr m K Ls A B F rs) (hg4 : w.grownBy w4 none) (hs5 : Step2 w4 w5 A B A1 B1) (hse5 : SbK W w5 d mb n1 x1 p dirK K (addL K Ls (recL k r)) (recsOf (addL K Ls (recL k r))).length A1 B1) (hm6 : RegIs w6 mr (m + 1) (setR F k (some r))) (hg6 : w5.grownBy w6 (some mr)) (hr1 : RegOk k r) (hr2 : (recL k r).length ≤ 65536) :
    KvB W w6 d mb n1 x1 sb p mr (m + 1) K (addL K Ls (recL k r)) A1 B1 (setR F k (some r)) (rs ++ [(k, r)]) ∧ Step w w6 (Blk A B mr) (Blk A1 B1 mr) := by
  have hsl := h.row.lt
  have hml := h.map.lt
  have hne := h.row.ne_map h.map
  have hsl4 : sb < w4.heap.size := Nat.lt_of_lt_of_le hsl hg4.size
  have hml4 : mr < w4.heap.size := Nat.lt_of_lt_of_le hml hg4.size
  have hsb1 : ¬ (A1 sb ∨ B1 sb) := fun hx => h.sb_.1 (hx.imp (hs5.oldA sb hsl4) (hs5.oldB sb hsl4))
  have hmr1 : ¬ (A1 mr ∨ B1 mr) := fun hx => h.mr_.1 (hx.imp (hs5.oldA mr hml4) (hs5.oldB mr hml4))
  have hk6 : Kept w5 w6 (fun j => j = mr) := Kept.of hg6 (fun j hj => by cases hj; rfl)
  have hrow5 := (h.row.grown hg4).stay (hs5.kept.block sb hsl4 h.sb_.1)
  refine ⟨⟨hse5.others hk6 (fun j hj e => by subst e; exact hmr1 hj) (fun j e => by subst e; exact h.mr_.2), addL_good h.good hr2, hrow5.stay (hk6.block sb hrow5.lt hne), hm6, ?_, ?_, h.ok.snoc hr1 hr2, ⟨hsb1, h.sb_.2⟩, ⟨hmr1, h.mr_.2⟩⟩, ?_⟩
  · rw [regs_snoc, h.says]
  · rw [recsOf_add, recsL_snoc, ← h.recs, List.append_assoc]
  · have st1 : Step w w5 (Blk A B mr) (Blk A1 B1 mr) := (Step.grown (Blk A B mr) hg4).trans (step2_blk hs5 mr)
    refine st1.trans ⟨hk6.mono (fun j _ e => .inr (.inr e)), fun j _ hx => hx⟩
/-- What Set leaves where it is done. -/
def SetB (W w : World) (d mb n : Nat) (x : DSt) (sb p mr m : Nat) (K : Kp) (Ls : Sg) (A B : Nat → Prop) (F : ByteArray → Option Reg) (rs : List (ByteArray × Reg)) (rec : List Int) (w' : World) : Prop := ∃ n' x' K' Ls' A' B' rs', x'.wn ≤ x.wn + 100 ∧ KvB W w' d mb n' x' sb p mr (m + 1) K' Ls' A' B' F rs' ∧ ((K' = K ∧ Ls' = addL K Ls rec ∧ n' + Ls.length ≤ n + Ls'.length ∧ Ls'.length ≤ 64) ∨ (64 < (addL K Ls rec).length ∧ openN K' Ls' = openN K (addL K Ls rec) + 1 ∧ Ls' = [] ∧ n' + Ls.length ≤ n + (addL K Ls rec).length + 2)) ∧ rs'.length ≤ max rs.length m + 1 ∧ Step w w' (Blk A B mr) (Blk A' B' mr)
/-- What stays where the power goes in Set. -/
def LostQ (W w : World) (d mb n sb mr : Nat) (A B : Nat → Prop) (F1 F2 : ByteArray → Option Reg) (w' : World) : Prop := ∃ n' y B' rs1, n' ≤ n + 8 ∧ Cd W w' d mb n' y B' ∧ (∃ V, y = ⟨true, false, 0, 0, y.wn, V⟩) ∧ (0 ≤ y.wn ∧ y.wn ≤ 999999700) ∧ Tells y.V dirK (recsL rs1) ∧ AllOk rs1 ∧ rs1.length ≤ 4194304 ∧ (regs rs1 = F1 ∨ regs rs1 = F2) ∧ Kept w w' (fun k => k = sb ∨ Blk A B mr k) ∧ (∀ k, k < w.heap.size → B' k → Blk A B mr k)
theorem lost_q {W w w5 w6 w7 : World} {d mb n n1 sb mr : Nat} {A B A1 B1 : Nat → Prop} {F1 F2 F3 F4 : ByteArray → Option Reg} (hn : n1 ≤ n + 5) (hst : Step w w5 (Blk A B mr) (Blk A1 B1 mr)) (h : LostR W w5 d mb n1 A1 B1 F3 F4 w6) (hF : ∀ G, G = F3 ∨ G = F4 → G = F1 ∨ G = F2) (hg : w6.grownBy w7 (some sb)) (hsb : ¬ Blk A B mr sb) (hsl : sb < w.heap.size) (hsW : W.heap.size ≤ sb) : LostQ W w d mb n sb mr A B F1 F2 w7 := by
  obtain ⟨n', y, A', B', rs1, h1, h2, h3, h4, h5, h6, h7, h8, h9⟩ := h
  have hB : ∀ k, k < w.heap.size → B' k → Blk A B mr k := fun k hk hb => hst.2 k hk (.inr (.inl (h9.oldB k (Nat.lt_of_lt_of_le hk hst.1.size) hb)))
  have hk7 : Kept w6 w7 (fun k => k = sb) := Kept.of hg (fun k hk => by cases hk; rfl)
  have hk6 : Kept w w6 (fun k => k = sb ∨ Blk A B mr k) := (hst.1.mono (fun k _ hb => .inr hb)).trans h9.kept (fun k hk hX => .inr (hst.2 k hk (hX.elim .inl (fun hb => .inr (.inl hb)))))
  refine ⟨n', y, B', rs1, by omega, ⟨h2.disk.others hk7 (fun k hb e => by subst e; exact hsb (hB k hsl hb)), ?_, h2.low, fun k hb => Nat.lt_of_lt_of_le (h2.ltB k hb) hg.size⟩, h3, h4, h5, h6, h7, hF _ h8, hk6.trans hk7 (fun k _ e => .inl e), hB⟩
  exact ⟨hk7.os.trans h2.from_.os, hk7.tape.trans h2.from_.tape, hk7.output.trans h2.from_.output, Nat.le_trans h2.from_.size hk7.size, fun k hk1 _ => (hk7.block k (Nat.lt_of_lt_of_le hk1 h2.from_.size) (fun hx => by omega)).trans (h2.from_.block k hk1 (by simp))⟩
set_option maxHeartbeats 8000000 in
theorem k_setB {W w : World} {d mb n : Nat} {x : DSt} {sb p mr m : Nat} {K : Kp} {Ls : Sg} {A B : Nat → Prop} {F : ByteArray → Option Reg} {rs : List (ByteArray × Reg)} (h : KvB W w d mb n x sb p mr m K Ls A B F rs) (k : ByteArray) (a : Option Addr) (dd : List Int) (M c : Nat) (hk : kB k = true) (hr : Rd w a dd) (hM : dd.length = M) (hv : ((F k).getD reg0).1 < 18446744073709551600) (hrl : (recL k (((F k).getD reg0).1 + 1, strOfNums dd)).length ≤ 65536) (hw : x.wn ≤ 999999400) (hop : openN K Ls < 99999990) (hn : n < 1048560) (hsg : Ls.length ≤ 64) (hm4 : m < 4194304) (hrs : rs.length < 4194304) (hsz : CutRoom (setR F k (some (((F k).getD reg0).1 + 1, strOfNums dd)))) :
    Calls Tryz.prog 19 #[.pointer (some ⟨sb, 0, none⟩), .string k, .slice a M c, .int .u64 (((F k).getD reg0).1 : Int)] w fun e w' => (e = .returned (.tuple #[.int .u64 ((((F k).getD reg0).1 : Int) + 1), .int .i64 0]) ∧ SetB W w d mb n x sb p mr m K Ls A B (setR F k (some (((F k).getD reg0).1 + 1, strOfNums dd))) rs (recL k (((F k).getD reg0).1 + 1, strOfNums dd)) w') ∨ (e = .returned (.tuple #[.int .u64 0, .int .i64 60]) ∧ LostQ W w d mb n sb mr A B F (setR F k (some (((F k).getD reg0).1 + 1, strOfNums dd))) w') := by
  have hks := kB_size hk
  have HFD := k_find sb mr _ k h.se.at_.disk h.se.on h.row h.map hk
  unfold regV regV0 at HFD
  generalize ((F k).getD reg0).2 = s0 at HFD
  generalize ((F k).getD reg0).1 = v at HFD hv hrl hsz ⊢
  have hds : dd.length ≤ 65536 := by
    have h1 := recL_len k (v + 1, strOfNums dd)
    have h2 : (strOfNums dd).size = dd.length := by unfold strOfNums; simp [ByteArray.size]
    rw [h2] at h1
    omega
  have hss : (strOfNums dd).size ≤ 65536 := by
    have h2 : (strOfNums dd).size = dd.length := by unfold strOfNums; simp [ByteArray.size]
    omega
  obtain ⟨s, es⟩ : ∃ s, s = strOfNums dd := ⟨_, rfl⟩
  have HNX : Hid (∀ w1, w.grownBy w1 none → Calls Tryz.prog 42 #[.agg #[.int .u64 (v : Int), .string s0], .slice a M c] w1 fun e w' => e = .returned (.agg #[.int .u64 ((v : Int) + 1), .string s]) ∧ w1.grownBy w' none) := fun w1 hg => by
    rw [es]
    exact k_next v s0 a dd M c w1 (hr.grown hg (by simp)) hM (by omega)
  rw [← es] at hrl hsz hss ⊢
  have HLY : Hid (∀ w1, Calls Tryz.prog 43 #[.agg #[.int .u64 ((v : Int) + 1), .string s], .string k] w1 fun e w' => ∃ g c N, e = .returned (.slice (some ⟨g, 0, none⟩) N c) ∧ Own w' w1.heap.size g N c (recL k (v + 1, s)) ∧ w1.grownBy w' none) := fun w1 => by
    have := k_lay k (v + 1) s w1 hks.2 (by omega) (by omega)
    rw [show ((v + 1 : Nat) : Int) = (v : Int) + 1 by omega] at this
    exact this
  have hrok : RegOk k (v + 1, s) := ⟨hks, ⟨by dsimp only; omega, by dsimp only; omega⟩, hss⟩
  have HKP : Hid (∀ w1 g N c, w.grownBy w1 none → Own w1 w.heap.size g N c (recL k (v + 1, s)) → Calls Tryz.prog 44 #[.pointer (some ⟨sb, 0, none⟩), .slice (some ⟨g, 0, none⟩) N c] w1 fun e w' => (e = .returned (.int .i64 0) ∧ KeepB W w1 d mb n x p K Ls A B (recL k (v + 1, s)) w') ∨ (e = .returned (.int .i64 60) ∧ LostR W w1 d mb n A B F (setR F k (some (v + 1, s))) w')) := fun w1 g N c hg ho => by
    refine (k_keepB (h.se.grown hg) h.good sb _ _ (h.row.grown hg) h.sb_.1 (some ⟨g, 0, none⟩) (recL k (v + 1, s)) N c (by omega) (by omega) (by omega) (by omega) ho.rd ho.len (by simp) (by rw [← ho.len]; exact hrl)).mono ?_
    rintro e w' (hx | ⟨rfl, n', y, A', B', k1, k2, k3, k4, k5, k6⟩)
    · exact .inl hx
    · refine .inr ⟨rfl, ?_⟩
      rcases k5 with k5 | k5
      · rw [h.recs] at k5
        exact ⟨n', y, A', B', rs, k1, k2, k3, k4, k5, h.ok, by omega, .inl h.says, k6⟩
      · rw [← List.append_assoc, h.recs, ← recsL_snoc] at k5
        exact ⟨n', y, A', B', rs ++ [(k, v + 1, s)], k1, k2, k3, k4, k5, h.ok.snoc hrok hrl, by rw [List.length_append, List.length_singleton]; omega, .inr (by rw [regs_snoc, h.says]), k6⟩
  have hopA : ∀ x1 : DSt, openN K (addL K Ls (recL k (v + 1, s))) ≤ openN K Ls + 1 := fun _ => by
    have hadd := log_add (x := x.calmed) (rec := recL k (v + 1, s)) h.se.log (calmed_calm x h.se.ok) (by show x.wn ≤ _; omega) hrl (by omega)
    rw [← hadd.op]
    exact rollX_le _ dirK (openN K Ls)
  have hlnA := addL_len K Ls (recL k (v + 1, s))
  have hsbB : ¬ Blk A B mr sb := fun hx => hx.elim (fun ha => h.sb_.1 (.inl ha)) (fun hx => hx.elim (fun hb => h.sb_.1 (.inr hb)) (h.row.ne_map h.map))
  have HSB : Hid (¬ Blk A B mr sb ∧ sb < w.heap.size ∧ W.heap.size ≤ sb) := ⟨hsbB, h.row.lt, h.sb_.2⟩
  have HSH : Hid (∀ (w5 : World) (n1 : Nat) (x1 : DSt) (A1 B1 : Nat → Prop), n1 + Ls.length ≤ n + (addL K Ls (recL k (v + 1, s))).length → x1.wn ≤ x.wn + 3 → KvB W w5 d mb n1 x1 sb p mr (m + 1) K (addL K Ls (recL k (v + 1, s))) A1 B1 (setR F k (some (v + 1, s))) (rs ++ [(k, v + 1, s)]) → Step w w5 (Blk A B mr) (Blk A1 B1 mr) → Calls Tryz.prog 46 #[.pointer (some ⟨sb, 0, none⟩)] w5 fun e w' => ∃ c, e = .returned (.int .i64 c) ∧ ((c = 0 ∧ SetB W w d mb n x sb p mr m K Ls A B (setR F k (some (v + 1, s))) rs (recL k (v + 1, s)) w' ∧ ∀ g, g < w5.heap.size → w.heap.size ≤ g → ¬ Blk A1 B1 mr g → w'.heap[g]? = w5.heap[g]?) ∨ (c = 60 ∧ TriAt w' sb (.pointer (some ⟨p, 0, none⟩)) (.pointer (some ⟨d, 0, none⟩)) (.map (some mr)) ∧ LostR W w5 d mb n1 A1 B1 (setR F k (some (v + 1, s))) (setR F k (some (v + 1, s))) w'))) := by
    intro w5 n1 x1 A1 B1 b1 b2 hk5 hst
    have h8 := hopA x1
    refine (k_shortB hk5 (by omega) (by omega) (by omega) (by omega) (by omega) (by rw [List.length_append, List.length_singleton]; omega) hsz).mono ?_
    rintro e w' ⟨c, rfl, hx⟩
    refine ⟨c, rfl, ?_⟩
    rcases hx with ⟨rfl, n', x', K', Ls', B', rs', k2, k3, k4, k6, k7⟩ | ⟨rfl, hl⟩
    · rw [List.length_append, List.length_singleton] at k6
      refine .inl ⟨rfl, ⟨n', x', K', Ls', A1, B', rs', by omega, k3, ?_, by omega, hst.trans (step2_blk k7 mr)⟩, fun g h1 h2 h3 => k7.kept.block g h1 (fun hx => h3 (hx.elim .inl (fun hb => .inr (.inl hb))))⟩
      rcases k4 with ⟨e1, e2, e3, e4⟩ | ⟨e1, e2, e3, e4⟩
      · exact .inl ⟨e1, e2, by rw [e2, e3]; exact b1, by rw [e2]; exact e4⟩
      · exact .inr ⟨e1, e2, e3, by omega⟩
    · refine .inr ⟨rfl, ?_, hl⟩
      obtain ⟨_, _, _, _, _, _, _, _, _, _, _, _, _, h9⟩ := hl
      exact hk5.row.stay (h9.kept.block sb hk5.row.lt hk5.sb_.1)
  have HKV : Hid (KvB W w d mb n x sb p mr m K Ls A B F rs) := h
  have HROK : Hid (RegOk k (v + 1, s) ∧ (recL k (v + 1, s)).length ≤ 65536) := ⟨hrok, hrl⟩
  have HK64 : Hid (k.size ≤ 64 ∧ m ≤ 4194304) := ⟨hks.2, by omega⟩
  have HFD' : Hid (Calls Tryz.prog 41 #[.pointer (some ⟨sb, 0, none⟩), .string k] w fun e w' => e = .returned (.tuple #[.agg #[.int .u64 (v : Int), .string s0], .int .i64 0]) ∧ w.grownBy w' none) := HFD
  have q1 : ((v : Int) != (v : Int)) = false := by simp
  clear h hk hr hM hv hrl hw hop hn hsg hm4 hrs hsz hks HFD hds hss es hrok hopA hlnA hsbB
  go_enter Tryz.func19, Tryz.ntmps19
  go_wp2_with fail
  refine HFD'.out.mono ?_
  rintro e w1 ⟨rfl, hg1⟩
  obtain ⟨W1, eW1⟩ : ∃ W1, W1 = w1.alloc (.cells #[.int .u64 (v : Int), .string s0] 90) := ⟨_, rfl⟩
  have HB1 : RgAt W1 w1.heap.size (.int .u64 (v : Int)) (.string s0) := by rw [eW1]; exact RgAt.new w1 _ _
  have HG1 : Hid (w.grownBy W1 none) := by show w.grownBy W1 none; rw [eW1]; exact hg1.trans (World.grownBy_alloc w1 _ none)
  have c0 := HB1.c0
  have c1 := HB1.c1
  clear hg1 HFD'
  go_upto_region 2 with fail
  rw [← eW1]
  clear eW1 HB1
  go_wp2_with fail
  refine (HNX.out _ HG1.out).mono ?_
  rintro e w2 ⟨rfl, hg2⟩
  obtain ⟨W2, eW2⟩ : ∃ W2, W2 = w2.alloc (.cells #[.int .u64 ((v : Int) + 1), .string s] 90) := ⟨_, rfl⟩
  have HB2 : RgAt W2 w2.heap.size (.int .u64 ((v : Int) + 1)) (.string s) := by rw [eW2]; exact RgAt.new w2 _ _
  have HG2 : Hid (w.grownBy W2 none) := by show w.grownBy W2 none; rw [eW2]; exact (HG1.out.trans hg2).trans (World.grownBy_alloc w2 _ none)
  have HW2 : Hid (w.heap.size ≤ w2.heap.size) := (HG1.out.trans hg2).size
  have HBH : Hid (RgAt W2 w2.heap.size (.int .u64 ((v : Int) + 1)) (.string s)) := HB2
  have d0 := HB2.c0
  have d1 := HB2.c1
  clear hg2 HNX HG1 c0 c1
  go_upto_region 7 with fail
  rw [← eW2]
  clear eW2 HB2
  go_wp2_with fail
  refine (HLY.out _).mono ?_
  rintro e w3 ⟨g, c3, RN, rfl, hown, hg3⟩
  have HG3 : Hid (w.grownBy w3 none) := HG2.out.trans hg3
  have HOW : Hid (Own w3 w.heap.size g RN c3 (recL k (v + 1, s))) := hown.base HG2.out.size
  have HB3 : Hid (RgAt w3 w2.heap.size (.int .u64 ((v : Int) + 1)) (.string s)) := HBH.out.grown hg3
  have hRN : (RN : Int) ≤ 65536 := by have h1 := hown.len; have h2 := HROK.out.2; omega
  have HC := HKP.out w3 g RN c3 HG3.out HOW.out
  clear hown hg3 HLY HKP HG2 HBH d0 d1
  go_wp2_with fail
  refine HC.mono ?_
  rintro e w5 (⟨rfl, n1, x1, A1, B1, b1, b2, b3, b4⟩ | ⟨rfl, hl⟩)
  case inr =>
    have hrow5 : TriAt w5 sb (.pointer (some ⟨p, 0, none⟩)) (.pointer (some ⟨d, 0, none⟩)) (.map (some mr)) := by
      obtain ⟨_, _, _, _, _, _, _, _, _, _, _, _, _, h9⟩ := id hl
      exact (HKV.out.row.grown HG3.out).stay (h9.kept.block sb (Nat.lt_of_lt_of_le HKV.out.row.lt HG3.out.size) HKV.out.sb_.1)
    have HFG := k_forget w5 sb _ _ _ 60 hrow5
    have HLQ : Hid (∀ w7, w5.grownBy w7 (some sb) → LostQ W w d mb n sb mr A B F (setR F k (some (v + 1, s))) w7) := fun w7 hg => lost_q (by omega) (Step.grown (Blk A B mr) HG3.out) hl (fun G hG => hG) hg HSB.out.1 HSB.out.2.1 HSB.out.2.2
    clear hl hrow5 HC
    go_wp2_with fail
    refine HFG.mono ?_
    rintro e w7 ⟨rfl, hg7⟩
    have HE : Hid (LostQ W w d mb n sb mr A B F (setR F k (some (v + 1, s))) w7) := HLQ.out w7 hg7
    clear hg7 HFG HLQ
    go_wp2
    go_ret2
    exact .inr ⟨rfl, HE.out⟩
  have hgl := HB3.out.lt
  have hgA : ¬ (A w2.heap.size ∨ B w2.heap.size) := fun hx => hx.elim (fun ha => by have := HKV.out.se.at_.ltA _ ha; have := HW2.out; omega) (fun hb => by have := HKV.out.se.at_.ltB _ hb; have := HW2.out; omega)
  have hgm : w2.heap.size ≠ mr := fun e => by have := HKV.out.map.lt; have := HW2.out; omega
  have HB5 : RgAt w5 w2.heap.size (.int .u64 ((v : Int) + 1)) (.string s) := HB3.out.stay (b4.kept.block _ hgl hgA)
  have hgA1 : ¬ (A1 w2.heap.size ∨ B1 w2.heap.size) := fun hx => hgA (hx.imp (b4.oldA _ hgl) (b4.oldB _ hgl))
  have hrow5 := (HKV.out.row.grown HG3.out).stay (b4.kept.block sb (Nat.lt_of_lt_of_le HKV.out.row.lt HG3.out.size) HKV.out.sb_.1)
  have hmap5 := (HKV.out.map.kept HG3.out (by simp)).stay (b4.kept.block mr (Nat.lt_of_lt_of_le HKV.out.map.lt HG3.out.size) HKV.out.mr_.1)
  have r2 := hrow5.c2
  have d0 := HB5.c0
  have d1 := HB5.c1
  obtain ⟨w6, hrun, hm6, hg6⟩ := RegIs.put (w := w5.drew) (hmap5.kept (gb_drew (World.grownBy.refl w5 none)) (by simp)) k HK64.out.1 HK64.out.2 (v + 1, s)
  have hput : (Instr.mapUpdate 66 (.map (some mr)) (.string k) (.agg #[.int .u64 ((v : Int) + 1), .string s])).run Tryz.prog w5.drew = .ok () w6 := hrun
  have hg56 : w5.grownBy w6 (some mr) := gb_trans (gb_any (gb_drew (World.grownBy.refl w5 none)) _) hg6 (fun j hj => .inr hj)
  obtain ⟨hk6, hst6⟩ := k_midB HKV.out HG3.out b4 b3 hm6 hg56 HROK.out.1 HROK.out.2
  have HC6 := HSH.out w6 n1 x1 A1 B1 b1 b2 hk6 hst6
  have HB6 : RgAt w6 w2.heap.size (.int .u64 ((v : Int) + 1)) (.string s) := HB5.stay (hg56.block _ HB5.lt (fun e => hgm (Option.some.inj e)))
  have HST6 : Hid (Step w w6 (Blk A B mr) (Blk A1 B1 mr)) := hst6
  have HB1 : Hid (n1 ≤ n + 1) := by show n1 ≤ n + 1; have := addL_len K Ls (recL k (v + 1, s)); omega
  have HBL : Hid (¬ Blk A1 B1 mr w2.heap.size) := fun hx => hx.elim (fun ha => hgA1 (.inl ha)) (fun hx => hx.elim (fun hb => hgA1 (.inr hb)) hgm)
  have HB6H : Hid (RgAt w6 w2.heap.size (.int .u64 ((v : Int) + 1)) (.string s)) := HB6
  clear hgl hgA hgm hgA1 hrow5 hmap5 hrun hm6 hg6 hg56 hk6 hst6 HB5 HB6 b1 b2 b3 b4 HC HB3 HOW HG3 HKV HROK HSH
  go_upto_region 13 with fail
  go_region
  all_goals go_wp2_with fail
  all_goals refine HC6.mono ?_
  all_goals rintro e w7 ⟨c7, rfl, hx7⟩
  all_goals rcases hx7 with ⟨rfl, hso, hbk⟩ | ⟨rfl, hrow7, hl⟩
  all_goals first
    | (have e0 := (HB6H.out.stay (hbk _ HB6H.out.lt HW2.out HBL.out)).c0
       have HSO : Hid (SetB W w d mb n x sb p mr m K Ls A B (setR F k (some (v + 1, s))) rs (recL k (v + 1, s)) w7) := hso
       clear hso hbk HC6
       go_wp2
       go_ret2
       exact .inl ⟨rfl, HSO.out⟩)
    | (have HFG := k_forget w7 sb _ _ _ 60 hrow7
       have HLQ : Hid (∀ w8, w7.grownBy w8 (some sb) → LostQ W w d mb n sb mr A B F (setR F k (some (v + 1, s))) w8) := fun w8 hg => lost_q (by have := HB1.out; omega) HST6.out hl (fun G hG => .inr (hG.elim id id)) hg HSB.out.1 HSB.out.2.1 HSB.out.2.2
       clear hl hrow7 HC6
       go_wp2_with fail
       refine HFG.mono ?_
       rintro e w8 ⟨rfl, hg8⟩
       have HE : Hid (LostQ W w d mb n sb mr A B F (setR F k (some (v + 1, s))) w8) := HLQ.out w8 hg8
       clear hg8 HFG HLQ
       go_wp2
       go_ret2
       exact .inr ⟨rfl, HE.out⟩)
end Go.Proofs.YtgpgkpciajajcaaGreatDoor

