/- Package head: likely, of any matchers. -/
import Derived.Test.YtpabbmiibehfjaaGreatDoorGt
import Derived.Test.YtpabbmiibehfjaaGreatDoorMtMface
namespace Go.Proofs.YtpabbmiibehfjaaGreatDoor
open Go.RowKit Go.Maps
set_option linter.unusedVariables false
set_option maxRecDepth 20000

theorem PostIs.atQ {w : World} {base m2 n : Nat} {D : Lab → List Nat} {B : Nat → Prop} (h : PostIs w base m2 n D B) (l : Lab) (hl : okK l) : ∃ a c, (∀ q, (Instr.lookup 64 (.map (some m2)) (.agg #[.string l.1, .string l.2]) false).run Tryz.prog (w.drewN q) = .ok (.slice a (D l).length c) (w.drewN q)) ∧ SRd ptsE w a (D l) ∧ (a = none → c = 0) ∧ (D l).length ≤ c := by
  obtain ⟨F, h1, _, h3, h4, _⟩ := h
  have hlk : ∀ q, (Instr.lookup posM.T (.map (some m2)) (posM.kv l) false).run Tryz.prog (w.drewN q) = .ok (posM.V (F l)) (w.drewN q) := fun q => mapG_look posM (mapG_kept posM h1 (gb_drewN w q) (by simp)) l hl
  cases hF : F l with
  | none =>
    rw [hF] at hlk
    rw [h4 l hl hF]
    exact ⟨none, 0, hlk, .inl rfl, fun _ => rfl, Nat.le_refl _⟩
  | some s =>
    rw [hF] at hlk
    obtain ⟨h6, _⟩ := h3 l s hl hF
    have hlen := h6.len
    rw [hlen]
    exact ⟨_, s.2.2, hlk, SOwn.rd h6, by simp, (sown_cap h6).1⟩
theorem get_mem : ∀ (ls : List Lab) (n v : ByteArray), Mt.getR ls n = v → v ≠ ⟨#[]⟩ → (n, v) ∈ ls
  | [], n, v, h, hv => by rw [Mt.getR] at h; exact absurd h.symm hv
  | p :: r, n, v, h, hv => by
    rw [Mt.getR] at h
    by_cases e : p.1 = n
    · rw [if_pos e] at h
      rw [← e, ← h]
      exact List.mem_cons_self ..
    · rw [if_neg e] at h
      exact List.mem_cons_of_mem _ (get_mem r n v h hv)
theorem says_has {ms : List Mt.Mat} {ls : List Lab} {n v : ByteArray} (h : Mt.saysR ms ls = true) (hm : ((1, n, v) : Mt.Mat) ∈ ms) (hv : v ≠ ⟨#[]⟩) : (n, v) ∈ ls := by
  unfold Mt.saysR at h
  have h1 := List.all_eq_true.1 h _ hm
  simp only at h1
  rw [Mt.say1, decide_eq_true_eq] at h1
  exact get_mem ls n v h1 hv
/-- What likely has found so far. -/
structure LkAt (w wr : World) (es : List Ent) (ms : List Mt.Mat) (es' : List Ent) (a : Option Addr) (M : Nat) : Prop where
  gr : w.grownBy wr none
  len : M = es'.length
  rd : SRd ptsE wr a (es'.map (·.p))
  sub : ∀ x ∈ es', x ∈ es
  le : es'.length ≤ es.length
  eq : es'.filter (fun e => Mt.saysR ms e.ls) = es.filter (fun e => Mt.saysR ms e.ls)
theorem LkAt.grown {w wr w' : World} {es es' : List Ent} {ms : List Mt.Mat} {a : Option Addr} {M : Nat} (h : LkAt w wr es ms es' a M) (hg : wr.grownBy w' none) : LkAt w w' es ms es' a M :=
  ⟨h.gr.trans hg, h.len, h.rd.grown hg (by simp), h.sub, h.le, h.eq⟩
theorem lk_post {w wr : World} {es : List Ent} {ms : List Mt.Mat} {n v : ByteArray} {a : Option Addr} (hm : ((1, n, v) : Mt.Mat) ∈ ms) (hv : v ≠ ⟨#[]⟩) (hg : w.grownBy wr none) (hr : SRd ptsE wr a (postD es (n, v))) : LkAt w wr es ms (es.filter (posts (n, v))) a (postD es (n, v)).length := by
  refine ⟨hg, by unfold postD; rw [List.length_map], hr, fun x hx => (List.mem_filter.1 hx).1, List.length_filter_le _ _, ?_⟩
  rw [List.filter_filter]
  apply List.filter_congr
  intro e _
  cases hs : Mt.saysR ms e.ls with
  | false => simp
  | true =>
    rw [Bool.true_and, posts_iff]
    exact .inr (says_has hs hm hv)
theorem mat_cells {w : World} {a : Option Addr} {ms : List Mt.Mat} (h : SRd Mt.matE w a ms) {k : Nat} {x : Int} {y z : ByteArray} (hs : ms[k]? = some (x, y, z)) :
    ∃ b off, a = some ⟨b, off, none⟩ ∧ w.cell? ⟨b, off + k * 3, none⟩ = some (.int .i64 x) ∧ w.cell? ⟨b, off + k * 3 + 1, none⟩ = some (.string y) ∧ w.cell? ⟨b, off + k * 3 + 2, none⟩ = some (.string z) := by
  have hk : k < ms.length := (List.getElem?_eq_some_iff.1 hs).1
  obtain ⟨b, off, rfl, hc⟩ := h.at (by omega)
  exact ⟨b, off, rfl, hc k _ 0 _ hs rfl, by rw [Nat.add_assoc]; exact hc k _ 1 _ hs rfl, by rw [Nat.add_assoc]; exact hc k _ 2 _ hs rfl⟩
set_option maxHeartbeats 4000000 in
theorem h_likelyM (base hb m1 m2 lim n : Nat) (es : List Ent) (B : Nat → Prop) (a : Option Addr) (ms : List Mt.Mat) (c : Nat) (w : World) (h : HeadIs w base hb m1 m2 lim n es B) (hr : SRd Mt.matE w a ms) (hz : ms.length ≤ 3518437208882) (hel : es.length ≤ 1024) (hok : ∀ m ∈ ms, okK (m.2.1, m.2.2)) :
    Calls Tryz.prog 36 #[.pointer (some ⟨hb, 0, none⟩), .slice a ms.length c] w fun e w' => ∃ a' c' M, e = .returned (.slice a' M c') ∧ ∃ es', LkAt w w' es ms es' a' M := by
  have HA : Hid (Calls Tryz.prog 44 #[.pointer (some ⟨hb, 0, none⟩)] w fun e w' => ∃ a c, e = .returned (.slice a es.length c) ∧ SRd ptsE w a (es.map (·.p)) ∧ w = w') := h_all base hb m1 m2 lim n es B w h
  have HH : Hid (HeadIs w base hb m1 m2 lim n es B) := h
  have HR : Hid (SRd Mt.matE w a ms) := hr
  have HOK : Hid (∀ m ∈ ms, okK (m.2.1, m.2.2)) := hok
  have HL0 : Hid (∀ a, SRd ptsE w a (es.map (·.p)) → LkAt w w es ms es a es.length) := fun a hr => ⟨World.grownBy.refl _ _, rfl, hr, fun x hx => hx, Nat.le_refl _, rfl⟩
  have HEL : Hid (es.length ≤ 1024) := hel
  obtain ⟨L, eL⟩ : ∃ L, L = ms.length := ⟨_, rfl⟩
  have EL : Hid (L = ms.length) := eL
  rw [← eL] at hz ⊢
  clear h hr hok eL
  obtain ⟨M0, eM0⟩ : ∃ M0, M0 = es.length := ⟨_, rfl⟩
  rw [← eM0] at HA HL0 hel
  clear eM0
  go_enter Tryz.func36, Tryz.ntmps36
  go_wp2_with fail
  refine HA.out.mono ?_
  rintro e w1 ⟨a0, c0, rfl, hr0, rfl⟩
  have HS : Hid (LkAt w w es ms es a0 M0) := HL0.out a0 hr0
  clear hr0 HA HL0
  go_wp2
  go_loopw [5, 13] (fun v i wr => ∃ (k : Nat) (a' : Option Addr) (c' M : Nat) (es' : List Ent), k ≤ L ∧ i = .int .i64 k ∧ v = .slice a' M c' ∧ LkAt w wr es ms es' a' M) (fun _ i _ => L - (intOf i).toNat)
  case atStart => exact ⟨0, a0, c0, M0, es, Nat.zero_le _, rfl, rfl, HS.out⟩
  case round =>
    obtain ⟨k, a', c', M, es', hk, rfl, rfl, hlk⟩ := hrel
    have HK : Hid (LkAt w wr es ms es' a' M) := hlk
    have hM : M ≤ 1024 := by have h1 := hlk.len; have h2 := hlk.le; have h3 := HEL.out; omega
    clear hlk
    by_cases hlt : k < L
    · have hi : (k : Int) < (L : Int) := by omega
      obtain ⟨⟨x, y, z⟩, hs⟩ : ∃ m, ms[k]? = some m := ⟨_, List.getElem?_eq_getElem (by have := EL.out; omega)⟩
      obtain ⟨b, off, rfl, d0, d1, d2⟩ := mat_cells (HR.out.grown HK.out.gr (by simp)) hs
      obtain ⟨t0, t1, t2⟩ : (wr.alloc (.cells #[.int .i64 x, .string y, .string z] 94)).cell? ⟨wr.heap.size, 0, none⟩ = some (.int .i64 x) ∧ (wr.alloc (.cells #[.int .i64 x, .string y, .string z] 94)).cell? ⟨wr.heap.size, 1, none⟩ = some (.string y) ∧ (wr.alloc (.cells #[.int .i64 x, .string y, .string z] 94)).cell? ⟨wr.heap.size, 2, none⟩ = some (.string z) := row3
      have hga : wr.grownBy (wr.alloc (.cells #[.int .i64 x, .string y, .string z] 94)) none := World.grownBy_alloc wr _ none
      have HKA : Hid (LkAt w (wr.alloc (.cells #[.int .i64 x, .string y, .string z] 94)) es ms es' a' M) := HK.out.grown hga
      have hokm := HOK.out _ (List.mem_of_getElem? hs)
      simp only at hokm
      by_cases hx : x = 1
      · by_cases hzv : z = ⟨#[]⟩
        · subst hzv
          subst hx
          clear hs hokm hga
          go_wp2
          go_roundw
          case rel => exact ⟨k + 1, a', c', M, es', by omega, by go_num, rfl, HKA.out⟩
          case measure => simp [intOf]; omega
        · subst hx
          have hze : (z.toList == ByteArray.toList ⟨#[]⟩) = false := by rw [str_eq]; simpa using hzv
          have hze2 : z.toList.isEmpty = false := by rw [str_none]; simpa using hzv
          have HPA := (HH.out.kept (HK.out.gr.trans hga)).post
          obtain ⟨pa, pc, hlook, hprd, _, hpc⟩ := HPA.atQ (y, z) hokm
          simp only at hlook
          have hcm := ((HH.out.kept (HK.out.gr.trans hga)).row.cells).2.1
          have HLP : Hid (LkAt w (wr.alloc (.cells #[.int .i64 1, .string y, .string z] 94)) es ms (es.filter (posts (y, z))) pa (postD es (y, z)).length) := lk_post (List.mem_of_getElem? hs) hzv (HK.out.gr.trans hga) hprd
          have hNP : (postD es (y, z)).length ≤ 1024 := by have h1 := HLP.out.len; have h2 := HLP.out.le; have h3 := HEL.out; omega
          generalize (postD es (y, z)).length = NP at hlook HLP hNP
          clear HPA hprd hs hokm hpc hzv hga
          by_cases hpm : NP < M
          · have hpi : (NP : Int) < (M : Int) := by omega
            go_wp2_with fail
            go_quiet (fail)
            have HF : Hid (LkAt w ((wr.alloc (.cells #[.int .i64 1, .string y, .string z] 94)).drewN nq) es ms (es.filter (posts (y, z))) pa NP) := HLP.out.grown (gb_drewN _ nq)
            go_wp2
            go_roundw
            case rel => exact ⟨k + 1, pa, pc, NP, _, by omega, by go_num, rfl, HF.out⟩
            case measure => simp [intOf]; omega
          · have hpi : ¬ (NP : Int) < (M : Int) := by omega
            go_wp2_with fail
            go_quiet (fail)
            have HF : Hid (LkAt w ((wr.alloc (.cells #[.int .i64 1, .string y, .string z] 94)).drewN nq) es ms es' a' M) := HKA.out.grown (gb_drewN _ nq)
            go_wp2
            go_roundw
            case rel => exact ⟨k + 1, a', c', M, _, by omega, by go_num, rfl, HF.out⟩
            case measure => simp [intOf]; omega
      · have hx1 : (x != 1) = true := by simpa using hx
        clear hs hokm hga
        go_wp2
        go_roundw
        case rel => exact ⟨k + 1, a', c', M, es', by omega, by go_num, rfl, HKA.out⟩
        case measure => simp [intOf]; omega
    · obtain rfl : k = L := by omega
      have hi : ¬ (k : Int) < (k : Int) := by omega
      go_wp2
      go_ret
      exact ⟨a', c', M, rfl, es', HK.out⟩
end Go.Proofs.YtpabbmiibehfjaaGreatDoor
