/- Several texts in one: Jc, Jd. -/
import Derived.Test.YtpabbmiibehfjaaGreatDoorKa
import Derived.Test.YtpabbmiibehfjaaGreatDoorGy
import Derived.Test.YtpabbmiibehfjaaGreatDoorGz
import Derived.Test.YtpabbmiibehfjaaGreatDoorMtRsays
import Derived.Test.YtpabbmiibehfjaaGreatDoorGq
import Derived.Deep.CutRange
/- Series in memory, their points in blocks of their own. -/
namespace Go.Proofs.YtpabbmiibehfjaaGreatDoor
open Go.RowKit Go.Maps
set_option linter.unusedVariables false
set_option maxRecDepth 20000

/-- No two series have their points in one block. -/
def Apart (raw : List (Sv × Sv)) : Prop := ∀ (i j : Nat) (r q : Sv × Sv) (x y : Addr), raw[i]? = some r → raw[j]? = some q → r.2.1 = some x → q.2.1 = some y → x.block = y.block → i = j
theorem Apart.nil : Apart [] := fun i j r q x y h => by simp at h
theorem Apart.snoc {raw : List (Sv × Sv)} {q : Sv × Sv} {m : Nat} (h : Apart raw) (hl : ∀ (i : Nat) (r : Sv × Sv) (x : Addr), raw[i]? = some r → r.2.1 = some x → x.block < m) (hn : ∀ y, q.2.1 = some y → m ≤ y.block) : Apart (raw ++ [q]) := by
  have hcase : ∀ (i : Nat) (r : Sv × Sv), (raw ++ [q])[i]? = some r → (i < raw.length ∧ raw[i]? = some r) ∨ (i = raw.length ∧ r = q) := by
    intro i r hr
    by_cases hi : i < raw.length
    · rw [List.getElem?_append_left hi] at hr
      exact .inl ⟨hi, hr⟩
    · rw [List.getElem?_append_right (by omega)] at hr
      obtain ⟨h7, h8⟩ := List.getElem?_eq_some_iff.1 hr
      simp at h7 h8
      exact .inr ⟨by omega, h8.symm⟩
  intro i j r s x y hr hs hx hy e
  rcases hcase i r hr with ⟨_, h1⟩ | ⟨h1, rfl⟩
  · rcases hcase j s hs with ⟨_, h2⟩ | ⟨h2, rfl⟩
    · exact h i j r s x y h1 h2 hx hy e
    · have := hl i r x h1 hx
      have := hn y hy
      omega
  · rcases hcase j s hs with ⟨_, h2⟩ | ⟨h2, rfl⟩
    · have := hl j s y h2 hy
      have := hn x hx
      omega
    · omega
/-- A list of series of its own, its rows named. -/
structure SerR (w : World) (X : Nat → Prop) (v : Value) (S : List Ser) (raw : List (Sv × Sv)) : Prop where
  own : SOwn serE 49 w 0 v S.length raw
  mem : ∀ k, v.ownBlock = some k → X k
  ser : ∀ (i : Nat) (r : Sv × Sv) (s : Ser), raw[i]? = some r → S[i]? = some s → SerOk w X r s
  apart : Apart raw
theorem SerR.nil (w : World) (X : Nat → Prop) : SerR w X (.slice none 0 0) [] [] := ⟨SOwn.nil 49 w 0, fun k hk => by simp [Value.ownBlock] at hk, fun i r s hr => by simp at hr, Apart.nil⟩
theorem SerR.out {w : World} {X : Nat → Prop} {v : Value} {S : List Ser} {raw : List (Sv × Sv)} (h : SerR w X v S raw) : SerOut w X v S := ⟨raw, h.own, h.mem, h.ser⟩
theorem SerR.stay {w w' : World} {X X' : Nat → Prop} {v : Value} {S : List Ser} {raw : List (Sv × Sv)} (h : SerR w X v S raw) (hs : ∀ k, k < w.heap.size → X k → w'.heap[k]? = w.heap[k]?) (hX : ∀ k, X k → X' k) : SerR w' X' v S raw :=
  ⟨sown_stayV h.own (fun k hk => hs k (SOwn.block h.own k hk).2 (h.mem k hk)), fun k hk => hX k (h.mem k hk), fun i r s hr hsr => (h.ser i r s hr hsr).stay hs hX, h.apart⟩
theorem SerR.grown {w w' : World} {X : Nat → Prop} {v : Value} {S : List Ser} {raw : List (Sv × Sv)} (h : SerR w X v S raw) (hg : w.grownBy w' none) : SerR w' X v S raw := h.stay (fun k hk _ => hg.block k hk (by simp)) (fun k h => h)
theorem SerR.kept {w w' : World} {X B : Nat → Prop} {v : Value} {S : List Ser} {raw : List (Sv × Sv)} (h : SerR w X v S raw) (hk : Kept w w' B) (hX : ∀ k, X k → ¬ B k) : SerR w' X v S raw := h.stay (fun k hlt hx => hk.block k hlt (hX k hx)) (fun k h => h)
theorem SerR.len {w : World} {X : Nat → Prop} {v : Value} {S : List Ser} {raw : List (Sv × Sv)} (h : SerR w X v S raw) : raw.length = S.length := SOwn.len h.own
theorem SerR.rd {w : World} {X : Nat → Prop} {a : Option Addr} {n c : Nat} {S : List Ser} {raw : List (Sv × Sv)} (h : SerR w X (.slice a n c) S raw) : SerRd w a raw S := by
  obtain ⟨a', c', e⟩ := sown_slice h.own
  simp only [Value.slice.injEq] at e
  obtain ⟨rfl, rfl, rfl⟩ := e
  exact ⟨SOwn.rd h.own, h.len, fun i r s hr hs => by
    have k := h.ser i r s hr hs
    exact ⟨k.ln, k.pn, k.lab.rd, k.pts.rd⟩⟩
theorem SerR.nils {w : World} {X : Nat → Prop} {v : Value} {S : List Ser} {raw : List (Sv × Sv)} (h : SerR w X v S raw) : ∀ (i : Nat) (r : Sv × Sv), raw[i]? = some r → (r.1.1 = none → r.1.2.2 = 0) ∧ (r.2.1 = none → r.2.2.2 = 0) := fun i r hr => by
  obtain ⟨s, hs⟩ : ∃ s, S[i]? = some s := ⟨_, List.getElem?_eq_getElem (by have := (List.getElem?_eq_some_iff.1 hr).1; have := h.len; omega)⟩
  have k := h.ser i r s hr hs
  exact ⟨(sown_cap k.lab).2, (sown_cap k.pts).2⟩
/-- The points' blocks lie in the world. -/
theorem SerR.plt {w : World} {X : Nat → Prop} {v : Value} {S : List Ser} {raw : List (Sv × Sv)} (h : SerR w X v S raw) : ∀ (i : Nat) (r : Sv × Sv) (x : Addr), raw[i]? = some r → r.2.1 = some x → x.block < w.heap.size := fun i r x hr hx => by
  obtain ⟨s, hs⟩ : ∃ s, S[i]? = some s := ⟨_, List.getElem?_eq_getElem (by have := (List.getElem?_eq_some_iff.1 hr).1; have := h.len; omega)⟩
  have k := (h.ser i r s hr hs).pts
  exact (SOwn.block k x.block (by rw [hx]; rfl)).2
/-- A series is appended. -/
theorem SerR.snoc {w w' : World} {X : Nat → Prop} {v v' : Value} {S : List Ser} {s : Ser} {a1 a2 : Option Addr} {c1 c2 m : Nat} {raw : List (Sv × Sv)} (h : SerR w X v S raw)
    (ho : SOwn serE 49 w' 0 v' (S.length + 1) (raw ++ [((a1, s.1.length, c1), (a2, s.2.length, c2))])) (hg : w.grownBy w' v.ownBlock) (hw : v'.ownBlock = v.ownBlock ∨ v'.ownBlock = some w.heap.size)
    (hl : SOwn labE 62 w 0 (.slice a1 s.1.length c1) s.1.length s.1) (hp : SOwn pntE 51 w 0 (.slice a2 s.2.length c2) s.2.length s.2) {X' : Nat → Prop} (hXX : ∀ k, X k → X' k) (hlx : ∀ x, a1 = some x → X' x.block) (hpx : ∀ x, a2 = some x → X' x.block) (hnew : v'.ownBlock = some w.heap.size → X' w.heap.size)
    (hlt : ∀ (i : Nat) (r : Sv × Sv) (x : Addr), raw[i]? = some r → r.2.1 = some x → x.block < m) (hge : ∀ y, a2 = some y → m ≤ y.block) :
    SerR w' X' v' (S ++ [s]) (raw ++ [((a1, s.1.length, c1), (a2, s.2.length, c2))]) := by
  have hT : ∀ k, v.ownBlock = some k → Typed w k 49 := fun k hk => by
    obtain ⟨a, c, rfl⟩ := sown_slice h.own
    cases a with
    | none => simp [Value.ownBlock] at hk
    | some x => have : x.block = k := by simpa [Value.ownBlock] using hk
                rw [← this]; exact sown_typed h.own
  have st : ∀ b t, Typed w b t → t ≠ 49 → w'.heap[b]? = w.heap[b]? := fun b t hb ht => hg.block b (typed_lt hb) (fun e1 => Typed.ne hb (hT b e1.symm) ht rfl)
  have stl : ∀ {a : Option Addr} {n c : Nat} {l : List Lab}, SOwn labE 62 w 0 (.slice a n c) n l → SOwn labE 62 w' 0 (.slice a n c) n l := fun h => sown_stay h (fun x hx => by subst hx; exact st _ _ (sown_typed h) (by decide))
  have stp : ∀ {a : Option Addr} {n c : Nat} {l : List Pt}, SOwn pntE 51 w 0 (.slice a n c) n l → SOwn pntE 51 w' 0 (.slice a n c) n l := fun h => sown_stay h (fun x hx => by subst hx; exact st _ _ (sown_typed h) (by decide))
  have hrl := h.len
  refine ⟨by rw [List.length_append]; exact ho, fun k hk => ?_, fun i r t hr ht => ?_, h.apart.snoc hlt hge⟩
  · rcases hw with h6 | h6
    · exact hXX k (h.mem k (h6 ▸ hk))
    · have h8 := hnew h6
      rw [h6] at hk; cases hk; exact h8
  · by_cases hi : i < raw.length
    · rw [List.getElem?_append_left hi] at hr
      rw [List.getElem?_append_left (by omega)] at ht
      have h6 := h.ser i r t hr ht
      exact ⟨h6.ln, h6.pn, stl h6.lab, stp h6.pts, fun x hx => hXX _ (h6.lx x hx), fun x hx => hXX _ (h6.px x hx)⟩
    · rw [List.getElem?_append_right (by omega)] at hr ht
      rw [hrl] at hr
      obtain ⟨h7, _⟩ := List.getElem?_eq_some_iff.1 hr
      simp at h7
      rw [show i - S.length = 0 by omega] at hr ht
      simp at hr ht
      subst hr ht
      exact ⟨rfl, rfl, stl hl, stp hp, hlx, hpx⟩
theorem ser_cellsN {w : World} {a : Option Addr} {raw : List (Sv × Sv)} {S : List Ser} (h : SerRd w a raw S) (hn : ∀ (i : Nat) (r : Sv × Sv), raw[i]? = some r → (r.1.1 = none → r.1.2.2 = 0) ∧ (r.2.1 = none → r.2.2.2 = 0)) {k : Nat} {s : Ser} (hs : S[k]? = some s) :
    ∃ b off la lc pa pc, a = some ⟨b, off, none⟩ ∧ w.cell? ⟨b, off + k * 2, none⟩ = some (.slice la s.1.length lc) ∧ w.cell? ⟨b, off + k * 2 + 1, none⟩ = some (.slice pa s.2.length pc) ∧ SRd labE w la s.1 ∧ SRd pntE w pa s.2 ∧ (la = none → lc = 0) ∧ (pa = none → pc = 0) := by
  have hk : k < raw.length := by rw [h.len]; exact (List.getElem?_eq_some_iff.1 hs).1
  obtain ⟨⟨⟨la, ln, lc⟩, ⟨pa, pn, pc⟩⟩, hr⟩ : ∃ r, raw[k]? = some r := ⟨_, List.getElem?_eq_getElem hk⟩
  obtain ⟨b, off, rfl, hc⟩ := h.rd.at (by omega)
  obtain ⟨h1, h2, h3, h4⟩ := h.ser k _ s hr hs
  obtain ⟨n1, n2⟩ := hn k _ hr
  simp only at h1 h2 h3 h4 n1 n2
  subst h1
  subst h2
  exact ⟨b, off, la, lc, pa, pc, rfl, hc k _ 0 _ hr rfl, by rw [Nat.add_assoc]; exact hc k _ 1 _ hr rfl, h3, h4, n1, n2⟩
end Go.Proofs.YtpabbmiibehfjaaGreatDoor

/- The document's Between: of series those that matchers say yes of, their points from one T to another. -/
namespace Go.Proofs.YtpabbmiibehfjaaGreatDoor
open Go.RowKit Go.Maps
set_option linter.unusedVariables false
set_option maxRecDepth 20000

theorem filt_next (f : Pt → Bool) {ps : List Pt} {m : Nat} {p : Pt} (h : ps[m]? = some p) : (ps.take (m + 1)).filter f = (ps.take m).filter f ++ (if f p = true then [p] else []) := by
  rw [List.take_add_one, h, List.filter_append]
  congr 1
  by_cases hf : f p = true
  · simp [hf]
  · simp [hf]
theorem filt_le (f : Pt → Bool) (ps : List Pt) (m : Nat) : ((ps.take m).filter f).length ≤ ps.length := Nat.le_trans (List.length_filter_le _ _) (List.length_take_le' _ _)
/-- What Between asks of the series it is handed. -/
def BetOk (S : List Ser) : Prop := S.length ≤ 1024 ∧ ∀ s ∈ S, s.1.length ≤ 4398046511000 ∧ s.2.length ≤ 8796093022206 ∧ ∀ p ∈ s.1, p.2.size ≤ 4611686018427387000
set_option maxHeartbeats 8000000 in
theorem r_between (a : Option Addr) (raw : List (Sv × Sv)) (S : List Ser) (c : Nat) (ma : Option Addr) (ms : List Mt.Mat) (mc : Nat) (f t : Int) (w : World) (hr : SerRd w a raw S) (hn : ∀ (i : Nat) (r : Sv × Sv), raw[i]? = some r → (r.1.1 = none → r.1.2.2 = 0) ∧ (r.2.1 = none → r.2.2.2 = 0)) (hz : BetOk S) (hm : SRd Mt.matE w ma ms) (hml : ms.length ≤ 3518437208882) (hmv : ∀ m ∈ ms, m.2.2.size ≤ 140737488356000) :
    Calls Tryz.prog 55 #[.slice a S.length c, .slice ma ms.length mc, .int .i64 f, .int .i64 t] w fun e w' => ∃ v, e = .returned v ∧ (∃ raw', SerR w' (fun k => w.heap.size ≤ k) v (selS (Mt.saysR ms) f t S) raw') ∧ w.grownBy w' none := by
  have HR : Hid (SerRd w a raw S) := hr
  have HNL : Hid (∀ (i : Nat) (r : Sv × Sv), raw[i]? = some r → (r.1.1 = none → r.1.2.2 = 0) ∧ (r.2.1 = none → r.2.2.2 = 0)) := hn
  have HZ : Hid (BetOk S) := hz
  have HM : Hid (SRd Mt.matE w ma ms) := hm
  have HMV : Hid (ms.length ≤ 3518437208882 ∧ ∀ m ∈ ms, m.2.2.size ≤ 140737488356000) := ⟨hml, hmv⟩
  obtain ⟨M, eM⟩ : ∃ M, M = S.length := ⟨_, rfl⟩
  have EM : Hid (M = S.length) := eM
  have hzM : M ≤ 1024 := by rw [eM]; exact hz.1
  obtain ⟨mn, emn⟩ : ∃ mn, mn = ms.length := ⟨_, rfl⟩
  have EMN : Hid (ms.length = mn) := emn.symm
  have HG0 : Hid (w.grownBy w none) := World.grownBy.refl _ _
  rw [← eM, ← emn]
  clear hr hn hz hm hml hmv eM emn
  go_enter Tryz.func55, Tryz.ntmps55
  go_wp2
  go_loopw [9, 10] (fun v i wr => ∃ (k : Nat) (raw' : List (Sv × Sv)), k ≤ M ∧ i = .int .i64 k ∧ SerR wr (fun k => w.heap.size ≤ k) v (selS (Mt.saysR ms) f t (S.take k)) raw' ∧ w.grownBy wr none) (fun _ i _ => M - (intOf i).toNat)
  case atStart => exact ⟨0, [], Nat.zero_le _, rfl, SerR.nil _ _, HG0.out⟩
  case round =>
    obtain ⟨k, raw', hk, rfl, hout, hgo⟩ := hrel
    obtain ⟨a9, c9, rfl⟩ := sown_slice hout.own
    have HSO : Hid (SerR wr (fun k => w.heap.size ≤ k) (.slice a9 (selS (Mt.saysR ms) f t (S.take k)).length c9) (selS (Mt.saysR ms) f t (S.take k)) raw') := hout
    have HGO : Hid (w.grownBy wr none) := hgo
    clear hout hgo HG0
    by_cases hlt : k < M
    · have hi : (k : Int) < (M : Int) := by omega
      obtain ⟨⟨ls, ps⟩, hs⟩ : ∃ s, S[k]? = some s := ⟨_, List.getElem?_eq_getElem (by have := EM.out; omega)⟩
      obtain ⟨b, off, la, lc, pa0, pc0, rfl, b0, b1, rl, rp, nl0, np0⟩ := ser_cellsN (HR.out.grown HGO.out) HNL.out hs
      obtain ⟨z1, z2, z3⟩ := HZ.out.2 _ (List.mem_of_getElem? hs)
      simp only at b0 b1 rl rp z1 z2 z3
      have HNX : Hid (selS (Mt.saysR ms) f t (S.take (k + 1)) = selS (Mt.saysR ms) f t (S.take k) ++ (if Mt.saysR ms ls = true ∧ ps.filter (within f t) ≠ [] then [(ls, ps.filter (within f t))] else [])) := by
        show _ = _
        rw [List.take_add_one, hs]
        exact selS_snoc _ f t _ (ls, ps)
      have HSL : Hid ((selS (Mt.saysR ms) f t (S.take k)).length ≤ 1024) := by
        show _ ≤ _
        unfold selS
        have h1 := keepS_len (within f t) ((S.take k).filter fun s => Mt.saysR ms s.1)
        have h2 := List.length_filter_le (fun s : Ser => Mt.saysR ms s.1) (S.take k)
        have h3 := List.length_take_le k S
        omega
      have HSY : Hid (Calls Tryz.prog 72 #[.slice ma mn mc, .slice la ls.length lc] wr fun e w' => e = .returned (.bool (Mt.saysR ms ls)) ∧ wr.grownBy w' none) :=
        Mt.r_says ma la ms ls mn _ mc lc _ wr (HM.out.grown HGO.out (by simp)) rl EMN.out rfl (by have := HMV.out.1; have := EMN.out; omega) (by omega) HMV.out.2 z3 rfl
      obtain ⟨nl, enl⟩ : ∃ nl, nl = ls.length := ⟨_, rfl⟩
      obtain ⟨np, enp⟩ : ∃ np, np = ps.length := ⟨_, rfl⟩
      have ENL : Hid (ls.length = nl) := enl.symm
      have ENP : Hid (ps.length = np) := enp.symm
      have HRL : Hid (SRd labE wr la ls) := rl
      have HRP : Hid (SRd pntE wr pa0 ps) := rp
      have HN0 : Hid (la = none → lc = 0) := nl0
      rw [← enl] at b0 HSY z1
      rw [← enp] at b1 z2
      generalize hT : selS (Mt.saysR ms) f t (S.take k) = T at HSO HNX HSL ⊢
      obtain ⟨QL, eQL⟩ : ∃ QL, QL = T.length := ⟨_, rfl⟩
      have EQL : Hid (T.length = QL) := eQL.symm
      have hQL := HSL.out
      rw [← eQL] at hQL ⊢
      clear hT hs rl rp nl0 np0 z3 enl enp eQL HSL
      go_wp2_with fail
      refine HSY.out.mono ?_
      rintro e w2 ⟨rfl, hg2⟩
      have HG2 : Hid (wr.grownBy w2 none) := hg2
      have d0 := hg2.cell b0 (by simp)
      have d1 := hg2.cell b1 (by simp)
      clear hg2 HSY b0 b1
      cases hsy : Mt.saysR ms ls with
      | false =>
        have HTN : Hid (selS (Mt.saysR ms) f t (S.take (k + 1)) = T) := by
          show _ = _
          rw [HNX.out, if_neg (fun h => by rw [hsy] at h; exact Bool.noConfusion h.1), List.append_nil]
        clear HNX hsy
        go_wp2
        go_roundw
        case rel =>
          refine ⟨k + 1, raw', by omega, by go_num, ?_, HGO.out.trans HG2.out⟩
          rw [HTN.out, ← EQL.out]
          exact HSO.out.grown HG2.out
        case measure => simp [intOf]; omega
      | true =>
        have HNX2 : Hid (selS (Mt.saysR ms) f t (S.take (k + 1)) = T ++ (if ps.filter (within f t) ≠ [] then [(ls, ps.filter (within f t))] else [])) := by
          show _ = _
          rw [HNX.out]
          by_cases hf : ps.filter (within f t) = []
          · rw [if_neg (fun h => h.2 hf), if_neg (fun h => h hf)]
          · rw [if_pos ⟨hsy, hf⟩, if_pos hf]
        clear HNX hsy
        have HGA : Hid (w2.grownBy (w2.alloc (.cells #[] 62)) none) := World.grownBy_alloc w2 _ none
        have e0 := HGA.out.cell d0 (by simp)
        go_wp2_with (at_builtin; refine wpList_append_s labT rfl (.tmp 28) (.tmp 33) rfl w2.heap.size (.slice (some ⟨w2.heap.size, 0, none⟩) 0 0) 0 [] rfl (SOwn.empty labE 62 w2) la ls nl lc rfl ENL.out (HRL.out.grown (HG2.out.trans HGA.out) (by simp)) HN0.out (by omega) (by unfold maxLen; omega) HGA.out.size ?_; intro v3 w3 ho3 hg3 hn3; rw [List.nil_append, Nat.zero_add] at ho3; obtain ⟨a3, c3, rfl⟩ := sown_slice ho3)
        have HG3 : Hid (wr.grownBy w3 none) := gb_trans (HG2.out.trans HGA.out) hg3 (fun i hi => .inl (by simp [Value.ownBlock] at hi; have := HG2.out.size; omega))
        have HO3 : Hid (SOwn labE 62 w3 w2.heap.size (.slice a3 nl c3) nl ls) := ho3
        have HX0 : Hid (XAt w3 (w3.alloc (.cells #[.slice a3 nl c3, .slice none 0 0] 49)) w3.heap.size (.slice a3 nl c3) none 0 ((ps.take 0).filter (within f t))) := XAt.start (World.grownBy.refl _ _)
        have g1 : w3.cell? ⟨b, off + k * 2 + 1, none⟩ = some (.slice pa0 np pc0) := by
          have h1 := HGA.out.cell d1 (by simp)
          exact cell_stays hg3 (World.block_lt_of_cell? _ _ h1) (by
            have := World.block_lt_of_cell? _ _ d1
            simp [Value.ownBlock]
            exact Nat.ne_of_lt this) h1
        have HRP3 : Hid (SRd pntE w3 pa0 ps) := HRP.out.grown HG3.out (by simp)
        have HW2 : Hid (wr.heap.size ≤ w2.heap.size) := HG2.out.size
        clear ho3 hg3 hn3 HGA HG2 d0 d1 e0 HRL HRP HN0
        generalize wr = wz at HSO HGO HG3 HW2
        generalize w3.alloc (.cells #[.slice a3 nl c3, .slice none 0 0] 49) = wx at HX0 ⊢
        generalize w3.heap.size = xb at HX0 ⊢
        go_wp2
        go_loopw [12] (fun i wq => ∃ (m : Nat) (pa : Option Addr) (pc : Nat), m ≤ np ∧ i = .int .i64 m ∧ XAt w3 wq xb (.slice a3 nl c3) pa pc ((ps.take m).filter (within f t))) (fun i _ => np - (intOf i).toNat)
        case atStart => exact ⟨0, none, 0, Nat.zero_le _, rfl, HX0.out⟩
        case round =>
          obtain ⟨m, pa, pc, hm, rfl, hx⟩ := hrel
          have HX : Hid (XAt w3 wr xb (.slice a3 nl c3) pa pc ((ps.take m).filter (within f t))) := hx
          have x1 := HX.out.gr.cell g1 (by simp)
          clear hx HX0
          by_cases hml : m < np
          · have hmi : (m : Int) < (np : Int) := by omega
            obtain ⟨⟨pT, pV⟩, hp⟩ : ∃ p, ps[m]? = some p := ⟨_, List.getElem?_eq_getElem (by have := ENP.out; omega)⟩
            obtain ⟨pb, po, rfl, k0, k1⟩ := pnt_cells (HRP3.out.grown HX.out.gr (by simp)) hp
            have HNP : Hid ((ps.take (m + 1)).filter (within f t) = (ps.take m).filter (within f t) ++ (if within f t (pT, pV) = true then [(pT, pV)] else [])) := filt_next _ hp
            have HGP : Hid (wr.grownBy (wr.alloc (.cells #[.int .i64 pT, .int .u64 pV] 51)) none) := World.grownBy_alloc wr _ none
            have t0 : (wr.alloc (.cells #[.int .i64 pT, .int .u64 pV] 51)).cell? ⟨wr.heap.size, 0, none⟩ = some (.int .i64 pT) := row2.1
            have t1 : (wr.alloc (.cells #[.int .i64 pT, .int .u64 pV] 51)).cell? ⟨wr.heap.size, 1, none⟩ = some (.int .u64 pV) := row2.2
            have HXP : Hid (XAt w3 (wr.alloc (.cells #[.int .i64 pT, .int .u64 pV] 51)) xb (.slice a3 nl c3) pa pc ((ps.take m).filter (within f t))) := HX.out.grew HGP.out
            have hbd := filt_le (within f t) ps m
            rw [ENP.out] at hbd
            clear hp
            go_upto_region 11 with fail
            generalize wr.alloc (.cells #[.int .i64 pT, .int .u64 pV] 51) = wp at HGP t0 t1 HXP ⊢
            generalize wr.heap.size = q at t0 t1 ⊢
            clear k0 k1 x1 HX HGP
            by_cases hin : f ≤ pT ∧ pT ≤ t
            · obtain ⟨i1, i2⟩ := hin
              have HN1 : Hid ((ps.take (m + 1)).filter (within f t) = (ps.take m).filter (within f t) ++ [(pT, pV)]) := by
                show _ = _
                rw [HNP.out, if_pos (by simp [within, i1, i2])]
              have HGL : Hid (wp.grownBy (wp.alloc (.cells #[.int .i64 pT, .int .u64 pV] 51)) none) := World.grownBy_alloc wp _ none
              have HXL : Hid (XAt w3 (wp.alloc (.cells #[.int .i64 pT, .int .u64 pV] 51)) xb (.slice a3 nl c3) pa pc ((ps.take m).filter (within f t))) := HXP.out.grew HGL.out
              have HSL : Hid (SRd pntE (wp.alloc (.cells #[.int .i64 pT, .int .u64 pV] 51)) (some ⟨wp.heap.size, 0, none⟩) [(pT, pV)]) := srd_lit2 pntE 51 wp [(pT, pV)]
              have HBL : Hid (xb ≤ (wp.alloc (.cells #[.int .i64 pT, .int .u64 pV] 51)).heap.size) := Nat.le_of_lt HXL.out.row.lt
              have y1 := HXP.out.cells.2
              have HFL : Hid (∀ (a2 : Option Addr) (c2 : Nat) (w2 : World), SOwn pntE 51 w2 xb (.slice a2 (((ps.take m).filter (within f t)).length + 1) c2) (((ps.take m).filter (within f t)).length + 1) (((ps.take m).filter (within f t)) ++ [(pT, pV)]) → (wp.alloc (.cells #[.int .i64 pT, .int .u64 pV] 51)).grownBy w2 (Value.ownBlock (.slice pa ((ps.take m).filter (within f t)).length pc)) → w2.cell? ⟨xb, 1, none⟩ = some (.slice pa ((ps.take m).filter (within f t)).length pc) ∧ w2.frozen? ⟨xb, 1, none⟩ = false ∧ XAt w3 (w2.setCell ⟨xb, 1, none⟩ (.slice a2 (((ps.take m).filter (within f t)).length + 1) c2)) xb (.slice a3 nl c3) a2 c2 ((ps.take (m + 1)).filter (within f t))) := by
                intro a2 c2 w2 k1 k2
                rw [HN1.out]
                exact HXL.out.app rfl k1 k2
              have HOL : Hid (SOwn pntE 51 (wp.alloc (.cells #[.int .i64 pT, .int .u64 pV] 51)) xb (.slice pa ((ps.take m).filter (within f t)).length pc) ((ps.take m).filter (within f t)).length ((ps.take m).filter (within f t))) := HXL.out.own
              generalize (ps.take m).filter (within f t) = P0 at HOL HFL y1 hbd
              generalize P0.length = pn at HOL HFL y1 hbd
              clear HN1 HNP HXL HXP
              go_wp2_with (at_builtin; refine wpList_append_at pntT rfl (.tmp 65) (.tmp 67) rfl xb (.slice pa pn pc) pn P0 rfl HOL.out ⟨wp.heap.size, 0, none⟩ [(pT, pV)] 1 1 rfl rfl HSL.out (by omega) (by unfold maxLen; omega) HBL.out ?_; intro v6 w6 ho6 hg6 hn6 hw6; obtain ⟨a6, c6, rfl⟩ := sown_slice ho6; obtain ⟨cy, fy, hdone⟩ := HFL.out a6 c6 w6 ho6 hg6; have HDN : Hid (XAt w3 (w6.setCell ⟨xb, 1, none⟩ (.slice a6 (pn + 1) c6)) xb (.slice a3 nl c3) a6 c6 ((ps.take (m + 1)).filter (within f t))) := hdone; clear ho6 hg6 hn6 hw6 hdone)
              go_roundw
              case rel => exact ⟨m + 1, a6, c6, by omega, by go_num, HDN.out⟩
              case measure => simp [intOf]; omega
            · have HXN : Hid (XAt w3 wp xb (.slice a3 nl c3) pa pc ((ps.take (m + 1)).filter (within f t))) := by
                rw [HNP.out, if_neg (by simp [within]; omega), List.append_nil]
                exact HXP.out
              clear HNP HXP hbd
              by_cases i1 : f ≤ pT
              · have i2 : ¬ pT ≤ t := fun h => hin ⟨i1, h⟩
                clear hin
                go_wp2
                go_roundw
                case rel => exact ⟨m + 1, pa, pc, by omega, by go_num, HXN.out⟩
                case measure => simp [intOf]; omega
              · clear hin
                go_wp2
                go_roundw
                case rel => exact ⟨m + 1, pa, pc, by omega, by go_num, HXN.out⟩
                case measure => simp [intOf]; omega
          · obtain rfl : m = np := by omega
            have hmi : ¬ (m : Int) < (m : Int) := by omega
            have hxe := HX.out
            rw [List.take_of_length_le (by have := ENP.out; omega)] at hxe
            have HXE : Hid (XAt w3 wr xb (.slice a3 nl c3) pa pc (ps.filter (within f t))) := hxe
            have hbd : (ps.filter (within f t)).length ≤ m := by have h1 := List.length_filter_le (within f t) ps; have := ENP.out; omega
            clear hxe HX
            obtain ⟨y0, y1⟩ := HXE.out.cells
            by_cases hP : ps.filter (within f t) = []
            · have HTN : Hid (selS (Mt.saysR ms) f t (S.take (k + 1)) = T) := by
                show _ = _
                rw [HNX2.out, if_neg (fun h => h hP), List.append_nil]
              rw [hP] at y1
              simp only [List.length_nil] at y1
              have HGE : Hid (wz.grownBy wr none) := HG3.out.trans HXE.out.gr
              clear hP HNX2 hbd HXE
              go_wp2
              go_roundw
              case rel =>
                refine ⟨k + 1, raw', by omega, by go_num, ?_, HGO.out.trans HGE.out⟩
                rw [HTN.out, ← EQL.out]
                exact HSO.out.grown HGE.out
              case measure => simp [intOf]; omega
            · have HTN : Hid (selS (Mt.saysR ms) f t (S.take (k + 1)) = T ++ [(ls, ps.filter (within f t))]) := by
                show _ = _
                rw [HNX2.out, if_pos hP]
              have hpos : 0 < (ps.filter (within f t)).length := List.length_pos_iff.2 hP
              generalize ps.filter (within f t) = F at HTN HXE hbd y1 hpos
              obtain ⟨FL, eFL⟩ : ∃ FL, FL = F.length := ⟨_, rfl⟩
              have EFL : Hid (F.length = FL) := eFL.symm
              rw [← eFL] at y1 hbd hpos
              have HGE : Hid (wz.grownBy wr none) := HG3.out.trans HXE.out.gr
              have HGL : Hid (wr.grownBy (wr.alloc (.cells #[.slice a3 nl c3, .slice pa FL pc] 49)) none) := World.grownBy_alloc wr _ none
              have HSRL : Hid (SerR (wr.alloc (.cells #[.slice a3 nl c3, .slice pa FL pc] 49)) (fun k => w.heap.size ≤ k) (.slice a9 QL c9) T raw') := by
                rw [← EQL.out]
                exact HSO.out.grown (HGE.out.trans HGL.out)
              have HW1 : Hid (SOwn serE 49 (wr.alloc (.cells #[.slice a3 nl c3, .slice pa FL pc] 49)) 0 (.slice a9 QL c9) QL raw') := by
                have h6 := HSRL.out.own
                rw [EQL.out] at h6
                exact h6
              have HSL : Hid (SRd serE (wr.alloc (.cells #[.slice a3 nl c3, .slice pa FL pc] 49)) (some ⟨wr.heap.size, 0, none⟩) [((a3, nl, c3), (pa, FL, pc))]) := srd_lit2 serE 49 wr [((a3, nl, c3), (pa, FL, pc))]
              have HFIN : Hid (∀ v6 w6, SOwn serE 49 w6 0 v6 (QL + 1) (raw' ++ [((a3, nl, c3), (pa, FL, pc))]) → (wr.alloc (.cells #[.slice a3 nl c3, .slice pa FL pc] 49)).grownBy w6 (Value.ownBlock (.slice a9 QL c9)) → (v6.ownBlock = Value.ownBlock (.slice a9 QL c9) ∨ v6.ownBlock = some (wr.alloc (.cells #[.slice a3 nl c3, .slice pa FL pc] 49)).heap.size) → SerR w6 (fun k => w.heap.size ≤ k) v6 (selS (Mt.saysR ms) f t (S.take (k + 1))) (raw' ++ [((a3, nl, c3), (pa, FL, pc))]) ∧ w.grownBy w6 none) := by
                intro v6 w6 k1 k2 k3
                have hge := HXE.out.ge
                have hz3 := HG3.out.size
                have hzo := HGO.out.size
                have hw2 := HW2.out
                have hsz : w.heap.size ≤ (wr.alloc (.cells #[.slice a3 nl c3, .slice pa FL pc] 49)).heap.size := Nat.le_trans (HGO.out.trans HGE.out).size HGL.out.size
                refine ⟨?_, gb_trans ((HGO.out.trans HGE.out).trans HGL.out) k2 (fun j hj => .inl (HSRL.out.mem j hj))⟩
                rw [HTN.out]
                rw [← EQL.out] at k1
                have hfin := SerR.snoc (s := (ls, F)) (m := wz.heap.size) (a1 := a3) (c1 := c3) (a2 := pa) (c2 := pc) (v' := v6) (w' := w6) HSRL.out (by simp only [ENL.out, EFL.out]; exact k1) k2 k3 (X' := fun k => w.heap.size ≤ k) ?_ ?_ (fun k h => h) (fun x hx => ?_) (fun x hx => ?_) (fun _ => hsz) HSO.out.plt (fun y hy => ?_)
                · simp only [ENL.out, EFL.out] at hfin
                  exact hfin
                · simp only [ENL.out]
                  exact SOwn.base (SOwn.kept HO3.out (HXE.out.gr.trans HGL.out) (by cases a3 <;> simp [Value.ownBlock])) (Nat.zero_le _)
                · have h6 := (HXE.out.grew HGL.out).own
                  exact SOwn.base h6 (Nat.zero_le _)
                · have := (SOwn.block HO3.out x.block (by rw [hx]; rfl)).1
                  omega
                · have := (SOwn.block HXE.out.own x.block (by rw [hx]; rfl)).1
                  omega
                · have := (SOwn.block HXE.out.own y.block (by rw [hy]; rfl)).1
                  omega
              clear hP HNX2 hbd HTN HSRL HSO HO3 HXE eFL
              go_wp2_with (at_builtin; refine wpList_append_at serT rfl (.tmp 74) (.tmp 76) rfl 0 (.slice a9 QL c9) QL raw' rfl HW1.out ⟨wr.heap.size, 0, none⟩ [((a3, nl, c3), (pa, FL, pc))] 1 1 rfl rfl HSL.out (by omega) (by unfold maxLen; omega) (Nat.zero_le _) ?_; intro v6 w6 ho6 hg6 hn6 hw6; obtain ⟨hs6, hg16⟩ := HFIN.out v6 w6 ho6 hg6 hw6; have HS6 : Hid (SerR w6 (fun k => w.heap.size ≤ k) v6 (selS (Mt.saysR ms) f t (S.take (k + 1))) (raw' ++ [((a3, nl, c3), (pa, FL, pc))])) := hs6; have HG6 : Hid (w.grownBy w6 none) := hg16; clear ho6 hg6 hn6 hw6 hs6 hg16)
              go_roundw
              case rel => exact ⟨k + 1, _, by omega, by go_num, HS6.out, HG6.out⟩
              case measure => simp [intOf]; omega
    · obtain rfl : k = M := by omega
      have hi : ¬ (k : Int) < (k : Int) := by omega
      have HQS : Hid (selS (Mt.saysR ms) f t (S.take k) = selS (Mt.saysR ms) f t S) := by
        show _ = _
        rw [List.take_of_length_le (by have := EM.out; omega)]
      go_wp2
      go_ret
      refine ⟨_, rfl, ⟨raw', ?_⟩, HGO.out⟩
      rw [← HQS.out]
      exact HSO.out
end Go.Proofs.YtpabbmiibehfjaaGreatDoor

