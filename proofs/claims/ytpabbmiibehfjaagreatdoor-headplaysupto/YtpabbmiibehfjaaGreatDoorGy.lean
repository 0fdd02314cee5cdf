/- Several texts in one: It, Iu, Iv, Iw. -/
import Derived.Test.YtpabbmiibehfjaaGreatDoorGt
import Derived.Test.YtpabbmiibehfjaaGreatDoorMtMface
import Derived.Test.YtpabbmiibehfjaaGreatDoorGv
/- Package head: likely, of any matchers. -/
namespace Go.Proofs.YtpabbmiibehfjaaGreatDoor
open Go.RowKit Go.Maps
set_option linter.unusedVariables false
set_option maxRecDepth 20000

theorem PostIs.atQ {w : World} {base m2 n : Nat} {D : Lab → List Nat} {B : Nat → Prop} (h : PostIs w base m2 n D B) (l : Lab) (hl : okK l) : ∃ a c, (∀ q, (Instr.lookup 64 (.map (some m2)) (.agg #[.string l.1, .string l.2]) false).run Tryz.prog (w.drewN q) = .ok (.slice a (D l).length c) (w.drewN q)) ∧ SRd ptsE w a (D l) ∧ (a = none → c = 0) ∧ (D l).length ≤ c := by
  obtain ⟨F, h1, _, h3, h4, _⟩ := h
  have hlk : ∀ q, (Instr.lookup posM.T (.map (some m2)) (posM.kv l) false).run Tryz.prog (w.drewN q) = .ok (posM.V (F l)) (w.drewN q) := fun q => mapG_look posM (mapG_kept posM h1 (gb_drewN w q) (by simp)) l hl
  cases hF : F l with
  | none =>
    rw [hF] at hlk
    rw [h4 l hl hF]
    exact ⟨none, 0, hlk, .inl rfl, fun _ => rfl, Nat.le_refl _⟩
  | some s =>
    rw [hF] at hlk
    obtain ⟨h6, _⟩ := h3 l s hl hF
    have hlen := h6.len
    rw [hlen]
    exact ⟨_, s.2.2, hlk, SOwn.rd h6, by simp, (sown_cap h6).1⟩
theorem get_mem : ∀ (ls : List Lab) (n v : ByteArray), Mt.getR ls n = v → v ≠ ⟨#[]⟩ → (n, v) ∈ ls
  | [], n, v, h, hv => by rw [Mt.getR] at h; exact absurd h.symm hv
  | p :: r, n, v, h, hv => by
    rw [Mt.getR] at h
    by_cases e : p.1 = n
    · rw [if_pos e] at h
      rw [← e, ← h]
      exact List.mem_cons_self ..
    · rw [if_neg e] at h
      exact List.mem_cons_of_mem _ (get_mem r n v h hv)
theorem says_has {ms : List Mt.Mat} {ls : List Lab} {n v : ByteArray} (h : Mt.saysR ms ls = true) (hm : ((1, n, v) : Mt.Mat) ∈ ms) (hv : v ≠ ⟨#[]⟩) : (n, v) ∈ ls := by
  unfold Mt.saysR at h
  have h1 := List.all_eq_true.1 h _ hm
  simp only at h1
  rw [Mt.say1, decide_eq_true_eq] at h1
  exact get_mem ls n v h1 hv
/-- What likely has found so far. -/
structure LkAt (w wr : World) (es : List Ent) (ms : List Mt.Mat) (es' : List Ent) (a : Option Addr) (M : Nat) : Prop where
  gr : w.grownBy wr none
  len : M = es'.length
  rd : SRd ptsE wr a (es'.map (·.p))
  sub : ∀ x ∈ es', x ∈ es
  le : es'.length ≤ es.length
  eq : es'.filter (fun e => Mt.saysR ms e.ls) = es.filter (fun e => Mt.saysR ms e.ls)
theorem LkAt.grown {w wr w' : World} {es es' : List Ent} {ms : List Mt.Mat} {a : Option Addr} {M : Nat} (h : LkAt w wr es ms es' a M) (hg : wr.grownBy w' none) : LkAt w w' es ms es' a M :=
  ⟨h.gr.trans hg, h.len, h.rd.grown hg (by simp), h.sub, h.le, h.eq⟩
theorem lk_post {w wr : World} {es : List Ent} {ms : List Mt.Mat} {n v : ByteArray} {a : Option Addr} (hm : ((1, n, v) : Mt.Mat) ∈ ms) (hv : v ≠ ⟨#[]⟩) (hg : w.grownBy wr none) (hr : SRd ptsE wr a (postD es (n, v))) : LkAt w wr es ms (es.filter (posts (n, v))) a (postD es (n, v)).length := by
  refine ⟨hg, by unfold postD; rw [List.length_map], hr, fun x hx => (List.mem_filter.1 hx).1, List.length_filter_le _ _, ?_⟩
  rw [List.filter_filter]
  apply List.filter_congr
  intro e _
  cases hs : Mt.saysR ms e.ls with
  | false => simp
  | true =>
    rw [Bool.true_and, posts_iff]
    exact .inr (says_has hs hm hv)
theorem mat_cells {w : World} {a : Option Addr} {ms : List Mt.Mat} (h : SRd Mt.matE w a ms) {k : Nat} {x : Int} {y z : ByteArray} (hs : ms[k]? = some (x, y, z)) :
    ∃ b off, a = some ⟨b, off, none⟩ ∧ w.cell? ⟨b, off + k * 3, none⟩ = some (.int .i64 x) ∧ w.cell? ⟨b, off + k * 3 + 1, none⟩ = some (.string y) ∧ w.cell? ⟨b, off + k * 3 + 2, none⟩ = some (.string z) := by
  have hk : k < ms.length := (List.getElem?_eq_some_iff.1 hs).1
  obtain ⟨b, off, rfl, hc⟩ := h.at (by omega)
  exact ⟨b, off, rfl, hc k _ 0 _ hs rfl, by rw [Nat.add_assoc]; exact hc k _ 1 _ hs rfl, by rw [Nat.add_assoc]; exact hc k _ 2 _ hs rfl⟩
set_option maxHeartbeats 4000000 in
theorem h_likelyM (base hb m1 m2 lim n : Nat) (es : List Ent) (B : Nat → Prop) (a : Option Addr) (ms : List Mt.Mat) (c : Nat) (w : World) (h : HeadIs w base hb m1 m2 lim n es B) (hr : SRd Mt.matE w a ms) (hz : ms.length ≤ 3518437208882) (hel : es.length ≤ 1024) (hok : ∀ m ∈ ms, okK (m.2.1, m.2.2)) :
    Calls Tryz.prog 36 #[.pointer (some ⟨hb, 0, none⟩), .slice a ms.length c] w fun e w' => ∃ a' c' M, e = .returned (.slice a' M c') ∧ ∃ es', LkAt w w' es ms es' a' M := by
  have HA : Hid (Calls Tryz.prog 44 #[.pointer (some ⟨hb, 0, none⟩)] w fun e w' => ∃ a c, e = .returned (.slice a es.length c) ∧ SRd ptsE w a (es.map (·.p)) ∧ w = w') := h_all base hb m1 m2 lim n es B w h
  have HH : Hid (HeadIs w base hb m1 m2 lim n es B) := h
  have HR : Hid (SRd Mt.matE w a ms) := hr
  have HOK : Hid (∀ m ∈ ms, okK (m.2.1, m.2.2)) := hok
  have HL0 : Hid (∀ a, SRd ptsE w a (es.map (·.p)) → LkAt w w es ms es a es.length) := fun a hr => ⟨World.grownBy.refl _ _, rfl, hr, fun x hx => hx, Nat.le_refl _, rfl⟩
  have HEL : Hid (es.length ≤ 1024) := hel
  obtain ⟨L, eL⟩ : ∃ L, L = ms.length := ⟨_, rfl⟩
  have EL : Hid (L = ms.length) := eL
  rw [← eL] at hz ⊢
  clear h hr hok eL
  obtain ⟨M0, eM0⟩ : ∃ M0, M0 = es.length := ⟨_, rfl⟩
  rw [← eM0] at HA HL0 hel
  clear eM0
  go_enter Tryz.func36, Tryz.ntmps36
  go_wp2_with fail
  refine HA.out.mono ?_
  rintro e w1 ⟨a0, c0, rfl, hr0, rfl⟩
  have HS : Hid (LkAt w w es ms es a0 M0) := HL0.out a0 hr0
  clear hr0 HA HL0
  go_wp2
  go_loopw [5, 13] (fun v i wr => ∃ (k : Nat) (a' : Option Addr) (c' M : Nat) (es' : List Ent), k ≤ L ∧ i = .int .i64 k ∧ v = .slice a' M c' ∧ LkAt w wr es ms es' a' M) (fun _ i _ => L - (intOf i).toNat)
  case atStart => exact ⟨0, a0, c0, M0, es, Nat.zero_le _, rfl, rfl, HS.out⟩
  case round =>
    obtain ⟨k, a', c', M, es', hk, rfl, rfl, hlk⟩ := hrel
    have HK : Hid (LkAt w wr es ms es' a' M) := hlk
    have hM : M ≤ 1024 := by have h1 := hlk.len; have h2 := hlk.le; have h3 := HEL.out; omega
    clear hlk
    by_cases hlt : k < L
    · have hi : (k : Int) < (L : Int) := by omega
      obtain ⟨⟨x, y, z⟩, hs⟩ : ∃ m, ms[k]? = some m := ⟨_, List.getElem?_eq_getElem (by have := EL.out; omega)⟩
      obtain ⟨b, off, rfl, d0, d1, d2⟩ := mat_cells (HR.out.grown HK.out.gr (by simp)) hs
      obtain ⟨t0, t1, t2⟩ : (wr.alloc (.cells #[.int .i64 x, .string y, .string z] 94)).cell? ⟨wr.heap.size, 0, none⟩ = some (.int .i64 x) ∧ (wr.alloc (.cells #[.int .i64 x, .string y, .string z] 94)).cell? ⟨wr.heap.size, 1, none⟩ = some (.string y) ∧ (wr.alloc (.cells #[.int .i64 x, .string y, .string z] 94)).cell? ⟨wr.heap.size, 2, none⟩ = some (.string z) := row3
      have hga : wr.grownBy (wr.alloc (.cells #[.int .i64 x, .string y, .string z] 94)) none := World.grownBy_alloc wr _ none
      have HKA : Hid (LkAt w (wr.alloc (.cells #[.int .i64 x, .string y, .string z] 94)) es ms es' a' M) := HK.out.grown hga
      have hokm := HOK.out _ (List.mem_of_getElem? hs)
      simp only at hokm
      by_cases hx : x = 1
      · by_cases hzv : z = ⟨#[]⟩
        · subst hzv
          subst hx
          clear hs hokm hga
          go_wp2
          go_roundw
          case rel => exact ⟨k + 1, a', c', M, es', by omega, by go_num, rfl, HKA.out⟩
          case measure => simp [intOf]; omega
        · subst hx
          have hze : (z.toList == ByteArray.toList ⟨#[]⟩) = false := by rw [str_eq]; simpa using hzv
          have hze2 : z.toList.isEmpty = false := by rw [str_none]; simpa using hzv
          have HPA := (HH.out.kept (HK.out.gr.trans hga)).post
          obtain ⟨pa, pc, hlook, hprd, _, hpc⟩ := HPA.atQ (y, z) hokm
          simp only at hlook
          have hcm := ((HH.out.kept (HK.out.gr.trans hga)).row.cells).2.1
          have HLP : Hid (LkAt w (wr.alloc (.cells #[.int .i64 1, .string y, .string z] 94)) es ms (es.filter (posts (y, z))) pa (postD es (y, z)).length) := lk_post (List.mem_of_getElem? hs) hzv (HK.out.gr.trans hga) hprd
          have hNP : (postD es (y, z)).length ≤ 1024 := by have h1 := HLP.out.len; have h2 := HLP.out.le; have h3 := HEL.out; omega
          generalize (postD es (y, z)).length = NP at hlook HLP hNP
          clear HPA hprd hs hokm hpc hzv hga
          by_cases hpm : NP < M
          · have hpi : (NP : Int) < (M : Int) := by omega
            go_wp2_with fail
            go_quiet (fail)
            have HF : Hid (LkAt w ((wr.alloc (.cells #[.int .i64 1, .string y, .string z] 94)).drewN nq) es ms (es.filter (posts (y, z))) pa NP) := HLP.out.grown (gb_drewN _ nq)
            go_wp2
            go_roundw
            case rel => exact ⟨k + 1, pa, pc, NP, _, by omega, by go_num, rfl, HF.out⟩
            case measure => simp [intOf]; omega
          · have hpi : ¬ (NP : Int) < (M : Int) := by omega
            go_wp2_with fail
            go_quiet (fail)
            have HF : Hid (LkAt w ((wr.alloc (.cells #[.int .i64 1, .string y, .string z] 94)).drewN nq) es ms es' a' M) := HKA.out.grown (gb_drewN _ nq)
            go_wp2
            go_roundw
            case rel => exact ⟨k + 1, a', c', M, _, by omega, by go_num, rfl, HF.out⟩
            case measure => simp [intOf]; omega
      · have hx1 : (x != 1) = true := by simpa using hx
        clear hs hokm hga
        go_wp2
        go_roundw
        case rel => exact ⟨k + 1, a', c', M, es', by omega, by go_num, rfl, HKA.out⟩
        case measure => simp [intOf]; omega
    · obtain rfl : k = L := by omega
      have hi : ¬ (k : Int) < (k : Int) := by omega
      go_wp2
      go_ret
      exact ⟨a', c', M, rfl, es', HK.out⟩
end Go.Proofs.YtpabbmiibehfjaaGreatDoor

/- Package head: Select, of any matchers. -/
namespace Go.Proofs.YtpabbmiibehfjaaGreatDoor
open Go.RowKit Go.Maps
set_option linter.unusedVariables false
set_option maxRecDepth 20000

theorem filter_ent (say : List Lab → Bool) (es : List Ent) : (es.map entS).filter (fun s => say s.1) = (es.filter fun e => say e.ls).map entS := by
  rw [List.filter_map]
  rfl
theorem sel_eq {say : List Lab → Bool} {es es' : List Ent} (h : es'.filter (fun e => say e.ls) = es.filter (fun e => say e.ls)) (f t : Int) : selS say f t (es'.map entS) = selS say f t (es.map entS) := by
  unfold selS
  rw [filter_ent, filter_ent, h]
/-- Matchers that the contracts take. -/
structure MatOk (ms : List Mt.Mat) : Prop where
  len : ms.length ≤ 3518437208882
  key : ∀ m ∈ ms, okK (m.2.1, m.2.2)
  val : ∀ m ∈ ms, m.2.2.size ≤ 2147483648
theorem h_selectM (base hb lim N P : Nat) (S : List Ser) (B : Nat → Prop) (a : Option Addr) (ms : List Mt.Mat) (c : Nat) (f t : Int) (w : World) (h : HeadAt w base hb lim N P S B) (hP : P ≤ 8796093022206) (hr : SRd Mt.matE w a ms) (hms : MatOk ms) (hm : Mt.Mx w) :
    Calls Tryz.prog 12 #[.pointer (some ⟨hb, 0, none⟩), .slice a ms.length c, .int .i64 f, .int .i64 t] w fun e w' => ∃ v, e = .returned v ∧ SerOut w' (fun k => w.heap.size ≤ k) v (selS (Mt.saysR ms) f t S) ∧ w.grownBy w' none := by
  obtain ⟨m1, m2, n, es, h1, h2, h3, h4, h5, h6, h7⟩ := h
  have hel : es.length ≤ 1024 := by rw [← h3, List.length_map] at h5; omega
  refine h_selectG base hb lim N P S B m1 m2 n es _ (Mt.saysR ms) f t w h1 h3 h4 h5 h6 h7 hP ?_ ?_
  · refine (h_likelyM base hb m1 m2 lim n es B a ms c w h1 hr hms.len hel hms.key).mono ?_
    rintro e w' ⟨a', c', M, rfl, es', hk⟩
    have hl := hk.len
    subst hl
    exact ⟨a', c', es', rfl, hk.rd, hk.sub, hk.le, by rw [← h3]; exact sel_eq hk.eq f t, hk.gr⟩
  · intro w1 e hg he
    have hck := h1.ok e he
    have hin := (check_iff e.ls).1 hck
    exact Mt.f_says a e.la ms e.ls _ _ c e.lc _ w1 (hr.grown hg (by simp)) (((h1.ent e he).kept hg).lab.rd) rfl rfl (by have := hms.len; omega) (by have := hin.1; omega) hms.val (fun p hp => by have := (ok_size (hin.2.1 p hp)).2.2; omega) (hm.grown hg) rfl
/-- Select, by a head that the law made. -/
theorem selectM {w wr : World} {hb lim N P : Nat} {S : List Ser} {B : Nat → Prop} {a : Option Addr} {ms : List Mt.Mat} {c : Nat} (f t : Int) (h : RunAt w wr hb lim N P S B) (hP : P ≤ 8796093022206) (hr : SRd Mt.matE w a ms) (hms : MatOk ms) (hm : Mt.Mx w) :
    Calls Tryz.prog 12 #[.pointer (some ⟨hb, 0, none⟩), .slice a ms.length c, .int .i64 f, .int .i64 t] wr fun e w' => ∃ a' c', e = .returned (.slice a' (selS (Mt.saysR ms) f t S).length c') ∧ SerOut w' (fun k => ¬ B k) (.slice a' (selS (Mt.saysR ms) f t S).length c') (selS (Mt.saysR ms) f t S) ∧ RunAt w w' hb lim N P S B ∧ wr.grownBy w' none := by
  refine (h_selectM w.heap.size hb lim N P S B a ms c f t wr h.head hP (hr.grown h.grown (by simp)) hms (hm.grown h.grown)).mono ?_
  rintro e w' ⟨v, rfl, ho, hg⟩
  have ho' : SerOut w' (fun k => ¬ B k) v (selS (Mt.saysR ms) f t S) := ho.stay (fun k _ _ => rfl) (fun k hk hB => by have := (h.head.blocks k hB).2; omega)
  obtain ⟨a', c', raw, rfl, _⟩ := ho.read
  exact ⟨a', c', rfl, ho', h.grew hg, hg⟩
end Go.Proofs.YtpabbmiibehfjaaGreatDoor

/- What HeadSelects rests on: maths. -/
namespace Go.Proofs.YtpabbmiibehfjaaGreatDoor
open Go.RowKit Go.Maps
set_option linter.unusedVariables false
set_option maxRecDepth 20000

/-- The points of those series whose labels are ls. -/
def pickP (ls : List Lab) (L : List Ser) : List Pt := L.flatMap fun s => if s.1 = ls then s.2 else []
theorem pick_next {ls : List Lab} {L : List Ser} {k : Nat} {s : Ser} (h : L[k]? = some s) : pickP ls (L.take (k + 1)) = pickP ls (L.take k) ++ (if s.1 = ls then s.2 else []) := by
  unfold pickP
  rw [List.take_add_one, h, List.flatMap_append]
  simp
theorem sel_cons (say : List Lab → Bool) (f t : Int) (s : Ser) (S : List Ser) : selS say f t (s :: S) = (if say s.1 = true ∧ s.2.filter (within f t) ≠ [] then [(s.1, s.2.filter (within f t))] else []) ++ selS say f t S := by
  have h := selS_snoc say f t [] s
  rw [List.nil_append] at h
  have e : selS say f t (s :: S) = selS say f t [s] ++ selS say f t S := by
    unfold selS
    rw [← keepS_app, ← List.filter_append]
    rfl
  rw [e, h]
  rfl
theorem pick_none (say : List Lab → Bool) (f t : Int) (ls : List Lab) : ∀ (S : List Ser), ls ∉ S.map (·.1) → pickP ls (selS say f t S) = []
  | [], _ => rfl
  | s :: r, h => by
    rw [List.map_cons, List.mem_cons, not_or] at h
    rw [sel_cons]
    unfold pickP
    rw [List.flatMap_append]
    have h2 := pick_none say f t ls r h.2
    unfold pickP at h2
    rw [h2, List.append_nil]
    split
    · simp only [List.flatMap_cons, List.flatMap_nil, List.append_nil]
      rw [if_neg (fun e => h.1 e.symm)]
    · rfl
theorem pick_sel (say : List Lab → Bool) (f t : Int) (s : Ser) (hs : say s.1 = true) : ∀ (S : List Ser), (S.map (·.1)).Nodup → s ∈ S → pickP s.1 (selS say f t S) = s.2.filter (within f t)
  | [], _, h => by simp at h
  | x :: r, hn, h => by
    rw [List.map_cons, List.nodup_cons] at hn
    rw [sel_cons]
    unfold pickP
    rw [List.flatMap_append]
    rcases List.mem_cons.1 h with rfl | h
    · have h2 := pick_none say f t s.1 r hn.1
      unfold pickP at h2
      rw [h2, List.append_nil]
      by_cases he : s.2.filter (within f t) = []
      · rw [if_neg (fun h => h.2 he), he]
        rfl
      · rw [if_pos ⟨hs, he⟩]
        simp only [List.flatMap_cons, List.flatMap_nil, List.append_nil, if_true]
    · have h2 := pick_sel say f t s hs r hn.2 h
      unfold pickP at h2
      rw [h2]
      have hne : x.1 ≠ s.1 := fun e => hn.1 (e ▸ List.mem_map.2 ⟨s, h, rfl⟩)
      split
      · simp only [List.flatMap_cons, List.flatMap_nil, List.append_nil]
        rw [if_neg hne, List.nil_append]
      · rfl
theorem filt_two (A B C : Pt → Bool) (m : Int) (hA : ∀ p, A p = true → p.1 ≤ m) (hB : ∀ p, B p = true → m < p.1) (hC : ∀ p, C p = (A p || B p)) : ∀ (ps : List Pt), ps.Pairwise (fun p q => p.1 < q.1) → ps.filter A ++ ps.filter B = ps.filter C
  | [], _ => rfl
  | p :: r, h => by
    have h1 := List.pairwise_cons.1 h
    have ih := filt_two A B C m hA hB hC r h1.2
    cases ha : A p with
    | true =>
      have hb : B p = false := by
        cases hb : B p with
        | false => rfl
        | true => have := hA p ha; have := hB p hb; omega
      rw [List.filter_cons_of_pos (by simp [ha]), List.filter_cons_of_neg (by simp [hb]), List.filter_cons_of_pos (by simp [hC, ha]), List.cons_append, ih]
    | false =>
      cases hb : B p with
      | false => rw [List.filter_cons_of_neg (by simp [ha]), List.filter_cons_of_neg (by simp [hb]), List.filter_cons_of_neg (by simp [hC, ha, hb]), ih]
      | true =>
        have hr : r.filter A = [] := by
          rw [List.filter_eq_nil_iff]
          intro q hq e
          have := hA q e
          have := hB p hb
          have := h1.1 q hq
          omega
        rw [hr, List.nil_append] at ih
        rw [List.filter_cons_of_neg (by simp [ha]), hr, List.nil_append, List.filter_cons_of_pos (by simp [hb]), List.filter_cons_of_pos (by simp [hC, hb]), ih]
theorem rise_split {ps : List Pt} (h : Rise ps) {f m t : Int} (h1 : f ≤ m) (h2 : m ≤ t) : ps.filter (within f m) ++ ps.filter (within (m + 1) t) = ps.filter (within f t) := by
  refine filt_two _ _ _ m (fun p hp => ?_) (fun p hp => ?_) (fun p => ?_) ps h.up
  · simp only [within, Bool.and_eq_true, decide_eq_true_eq] at hp
    exact hp.2
  · simp only [within, Bool.and_eq_true, decide_eq_true_eq] at hp
    omega
  · rw [Bool.eq_iff_iff]
    simp only [within, Bool.and_eq_true, Bool.or_eq_true, decide_eq_true_eq]
    omega
/-- The two halves of a series make it whole. -/
theorem halves {S : List Ser} (hg : Good S) (say : List Lab → Bool) {f m t : Int} (h1 : f ≤ m) (h2 : m ≤ t) {s : Ser} (hs : s ∈ selS say f t S) : pickP s.1 (selS say f m S) ++ pickP s.1 (selS say (m + 1) t S) = s.2 := by
  unfold selS at hs
  obtain ⟨x, hx, _, rfl⟩ := keepS_mem.1 hs
  obtain ⟨hx1, hx2⟩ := List.mem_filter.1 hx
  have hn := sets_nodup hg.sets
  rw [pick_sel say f m x hx2 S hn hx1, pick_sel say (m + 1) t x hx2 S hn hx1]
  exact rise_split (hg.rise x hx1) h1 h2
theorem pts_halves {S : List Ser} (hg : Good S) (say : List Lab → Bool) {f m t : Int} (h1 : f ≤ m) (h2 : m ≤ t) : ptsN (selS say f m S) + ptsN (selS say (m + 1) t S) = ptsN (selS say f t S) := by
  unfold selS
  rw [pts_keep, pts_keep, pts_keep]
  have hr : ∀ s ∈ S.filter (fun s => say s.1), Rise s.2 := fun s hs => hg.rise s (List.mem_filter.1 hs).1
  generalize S.filter (fun s => say s.1) = T at hr
  induction T with
  | nil => rfl
  | cons s r ih =>
    have ih' := ih (fun s hs => hr s (List.mem_cons_of_mem _ hs))
    have hl := congrArg List.length (rise_split (hr s (List.mem_cons_self ..)) h1 h2)
    rw [List.length_append] at hl
    simp only [List.map_cons, List.sum_cons]
    omega
end Go.Proofs.YtpabbmiibehfjaaGreatDoor

/- HeadSelects: the law's own series, point by point. -/
namespace Go.Proofs.YtpabbmiibehfjaaGreatDoor
open Go.RowKit Go.Maps
set_option linter.unusedVariables false
set_option maxRecDepth 20000

/-- A series of the law's own, in block xb: its labels lv, its points P so far. -/
structure XAt (wo wr : World) (xb : Nat) (lv : Value) (a : Option Addr) (c : Nat) (P : List Pt) : Prop where
  gr : wo.grownBy wr none
  row : wr.rowIs xb 49 2 (SerF lv (.slice a P.length c))
  own : SOwn pntE 51 wr xb (.slice a P.length c) P.length P
  ge : wo.heap.size ≤ xb
theorem XAt.grew {wo wr w' : World} {xb : Nat} {lv : Value} {a : Option Addr} {c : Nat} {P : List Pt} (h : XAt wo wr xb lv a c P) (hg : wr.grownBy w' none) : XAt wo w' xb lv a c P :=
  ⟨h.gr.trans hg, h.row.of_block (hg.block _ h.row.lt (by simp)), sown_stay h.own (fun x hx => hg.block _ (SOwn.block h.own x.block (by rw [hx]; rfl)).2 (by simp)), h.ge⟩
theorem XAt.cells {wo wr : World} {xb : Nat} {lv : Value} {a : Option Addr} {c : Nat} {P : List Pt} (h : XAt wo wr xb lv a c P) : wr.cell? ⟨xb, 0, none⟩ = some lv ∧ wr.cell? ⟨xb, 1, none⟩ = some (.slice a P.length c) := ⟨h.row.cell (i := 0) (by omega), h.row.cell (i := 1) (by omega)⟩
theorem XAt.app {wo W w2 : World} {xb : Nat} {lv : Value} {a a2 : Option Addr} {c c2 m : Nat} {P zs : List Pt} (h : XAt wo W xb lv a c P) (hm : zs.length = m) (ho : SOwn pntE 51 w2 xb (.slice a2 (P.length + m) c2) (P.length + m) (P ++ zs)) (hg : W.grownBy w2 (Value.ownBlock (.slice a P.length c))) :
    w2.cell? ⟨xb, 1, none⟩ = some (.slice a P.length c) ∧ w2.frozen? ⟨xb, 1, none⟩ = false ∧ XAt wo (w2.setCell ⟨xb, 1, none⟩ (.slice a2 (P.length + m) c2)) xb lv a2 c2 (P ++ zs) := by
  have hT : ∀ k, Value.ownBlock (.slice a P.length c) = some k → Typed W k 51 ∧ xb ≤ k := fun k hk => by
    cases a with
    | none => simp [Value.ownBlock] at hk
    | some x =>
      have e : x.block = k := by simpa [Value.ownBlock] using hk
      rw [← e]
      exact ⟨sown_typed h.own, (SOwn.block h.own x.block rfl).1⟩
  have hne : some xb ≠ Value.ownBlock (.slice a P.length c) := fun e => Typed.ne (rowIs_typed h.row) (hT xb e.symm).1 (by decide) rfl
  have hrow : w2.rowIs xb 49 2 (SerF lv (.slice a P.length c)) := h.row.of_block (hg.block _ h.row.lt hne)
  refine ⟨hrow.cell (i := 1) (by omega), hrow.frozen 1, ?_⟩
  have hgs : w2.grownBy (w2.setCell ⟨xb, 1, none⟩ (.slice a2 (P.length + m) c2)) (some xb) := gb_set rfl
  have hl : (P ++ zs).length = P.length + m := by rw [List.length_append, hm]
  refine ⟨?_, ?_, ?_, h.ge⟩
  · exact gb_trans (gb_trans h.gr hg (fun k hk => .inl (Nat.le_trans h.ge (hT k hk).2))) hgs (fun k hk => .inl (by cases hk; exact h.ge))
  · refine (hrow.set 1 (.slice a2 (P.length + m) c2)).congr (fun i hi => ?_)
    match i, hi with
    | 0, _ => rfl
    | 1, _ =>
      show (if (1 : Nat) = 1 then (Value.slice a2 (P.length + m) c2) else _) = .slice a2 (P ++ zs).length c2
      rw [if_pos rfl, hl]
  · rw [hl]
    refine sown_stay ho (fun x hx => ?_)
    subst hx
    have hT6 := sown_typed ho
    exact hgs.block _ (typed_lt hT6) (fun e1 => Typed.ne hT6 (rowIs_typed hrow) (by decide) (Option.some.inj e1))
/-- It begins without points. -/
theorem XAt.start {wo w : World} {lv : Value} (hg : wo.grownBy w none) : XAt wo (w.alloc (.cells #[lv, .slice none 0 0] 49)) w.heap.size lv none 0 [] := by
  have hr : (w.alloc (.cells #[lv, .slice none 0 0] 49)).rowIs w.heap.size 49 2 (SerF lv (.slice none 0 0)) := by
    refine ⟨_, heap_alloc_new w _, rfl, fun i hi => ?_⟩
    match i, hi with
    | 0, _ => rfl
    | 1, _ => rfl
  exact ⟨hg.trans (World.grownBy_alloc w _ none), hr, SOwn.nil 51 _ _, hg.size⟩
end Go.Proofs.YtpabbmiibehfjaaGreatDoor

