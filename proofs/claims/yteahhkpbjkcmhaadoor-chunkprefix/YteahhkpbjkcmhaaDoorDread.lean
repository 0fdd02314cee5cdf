/- Package chunk: read. -/
import Derived.Test.YteahhkpbjkcmhaaDoorHnext
import Derived.Test.YteahhkpbjkcmhaaDoorDwin0
import Derived.Deep.CutRange
import Derived.Deep.RegionWith
import Derived.Deep.RegionHeld3
namespace Go.Proofs.YteahhkpbjkcmhaaDoor
open Go.RowKit
set_option linter.unusedVariables false

theorem eqp63 (x0 : Int) (x1 : Int) (y0 : Int) (y1 : Int) (w : World) : (binOp .eql 64 (.agg #[.int .i64 x0, .int .i64 x1]) (.agg #[.int .i64 y0, .int .i64 y1])).run Tryd.prog w = .ok (.bool (decide (((x0, x1) : Pnt) = (y0, y1)))) w := by
  have h : (Op.equal 64 (.agg #[.int .i64 x0, .int .i64 x1]) (.agg #[.int .i64 y0, .int .i64 y1])).run Tryd.prog w = .ok (decide (((x0, x1) : Pnt) = (y0, y1))) w := by
    have hf : (Tryd.prog.fieldsOf 64).toList.map (fun f => (f.type, f.offset)) = [(3, 0), (3, 1)] := by kernel_rfl
    have hn : (Tryd.prog.fieldsOf 64).toList.all (fun f => f.name != "_") = true := by kernel_rfl
    have hu : Tryd.prog.underlying 64 = some (.struct (Tryd.prog.fieldsOf 64)) := by kernel_rfl
    have hp : Tryd.prog.stoodInHeld 64 = false := by kernel_rfl
    simp only [Op.equal]
    rw [show Op.maxDepth = 9999 + 1 from rfl, run_equalIn_struct w 9999 64 _ _ hu hp]
    generalize (Tryd.prog.fieldsOf 64).toList = fs at hf hn
    have hl : fs.length = 2 := by simpa using congrArg List.length hf
    obtain ⟨f0, f1, rfl⟩ : ∃ f0 f1, fs = [f0, f1] := by
      match fs, hl with
      | [f0, f1], _ => exact ⟨f0, f1, rfl⟩
    simp only [List.map_cons, List.map_nil, List.cons.injEq, Prod.mk.injEq, and_true] at hf
    simp only [List.all_cons, List.all_nil, Bool.and_true, Bool.and_eq_true, bne_iff_ne] at hn
    obtain ⟨⟨a0, b0⟩, ⟨a1, b1⟩⟩ := hf
    have p0 : ∀ (z0 : Int) (z1 : Int) (w : World), (part 3 #[.int .i64 z0, .int .i64 z1] 0).run Tryd.prog w = .ok (.int .i64 z0) w := fun z0 z1 w => by simp [part, go_sem]
    have p1 : ∀ (z0 : Int) (z1 : Int) (w : World), (part 3 #[.int .i64 z0, .int .i64 z1] 1).run Tryd.prog w = .ok (.int .i64 z1) w := fun z0 z1 w => by simp [part, go_sem]
    have q0 : ∀ (x y : Int) (w : World), (Op.equalIn 9999 3 (.int .i64 x) (.int .i64 y)).run Tryd.prog w = .ok (decide (x = y)) w := fun x y w => by rw [run_equalIn_int w 9998 3 .i64 _ x y Tryd.underlying3]; congr 1
    have q1 : ∀ (x y : Int) (w : World), (Op.equalIn 9999 3 (.int .i64 x) (.int .i64 y)).run Tryd.prog w = .ok (decide (x = y)) w := fun x y w => by rw [run_equalIn_int w 9998 3 .i64 _ x y Tryd.underlying3]; congr 1
    by_cases e0 : x0 = y0 <;> by_cases e1 : x1 = y1 <;> simp [Op.eqFields, hn.1, hn.2, a0, b0, a1, b1, p0, e0, p1, e1, q0]
  simp [binOp, h]
theorem eql63 (x0 x1 y0 y1 : Int) (w : World) : (binOp .eql 64 (.agg #[.int .i64 x0, .int .i64 x1]) (.agg #[.int .i64 y0, .int .i64 y1])).run Tryd.prog w = .ok (.bool (decide (x0 = y0 ∧ x1 = y1))) w := by
  rw [eqp63]
  simp only [Prod.mk.injEq]
theorem d_windowFix (Y : Int) (h0 : 0 ≤ Y) (h1 : Y < 18446744073709551616) : ∃ A B : Nat, (0 < Y → (A : Int) = min (leadN Y : Int) 31 ∧ (B : Int) = trailN Y) ∧ ∀ w, Calls Tryd.prog 38 #[.int .u64 Y] w fun e w' => e = .returned (.agg #[.int .i64 (A : Int), .int .i64 (B : Int)]) ∧ w' = w.alloc (.cells #[.int .i64 (A : Int), .int .i64 (B : Int)] 64) := by
  by_cases hY : Y = 0
  · subst hY
    exact ⟨31, 63, fun h => absurd h (by decide), fun w => d_windowOf0 w⟩
  · refine ⟨(min (leadN Y : Int) 31).toNat, trailN Y, fun _ => ⟨by omega, rfl⟩, fun w => ?_⟩
    refine (d_windowOf Y w h0 h1).mono ?_
    rintro e w' ⟨A, B, rfl, ⟨_, _, h⟩, rfl⟩
    obtain ⟨h2, h3⟩ := h (by omega)
    have e1 : A = (min (leadN Y : Int) 31).toNat := by omega
    have e2 : B = trailN Y := by omega
    subst e1 e2
    exact ⟨rfl, rfl⟩
theorem EndR.start {zs : List Int} {s0 : Option (List Bool)} {n : Int} (h : GetR 13 (some (unpack zs)) s0 n) (hn : n = 0) : EndR zs [] s0 := by
  subst hn
  unfold GetR at h
  cases hq : Go.Proofs.YteahhkpbjkcmhaaDoor.get 13 (unpack zs) with
  | none => simp only [hq] at h; exact .inl ⟨h.2, no_count hq⟩
  | some q =>
    simp only [hq] at h
    obtain ⟨h1, h2⟩ := h
    exact .inr ⟨q.2, h2, zero_count (by rw [hq, h1]), by simp⟩
theorem NextR.start {zs : List Int} {s0 s1 s2 : Option (List Bool)} {n x y : Int} (h : GetR 13 (some (unpack zs)) s0 n) (hn : n ≠ 0) (h1 : GetR 64 s0 s1 x) (h2 : GetR 64 s1 s2 y) : NextR zs n [] s2 (IntKind.i64.wrap x) y 0 64 0 := by
  unfold GetR at h
  cases hq : Go.Proofs.YteahhkpbjkcmhaaDoor.get 13 (unpack zs) with
  | none => simp only [hq] at h; exact absurd h.1 hn
  | some q =>
    simp only [hq] at h
    obtain ⟨h3, rfl⟩ := h
    have hq' : Go.Proofs.YteahhkpbjkcmhaaDoor.get 13 (unpack zs) = some (n, q.2) := by rw [hq, h3]
    unfold GetR at h1
    cases hq1 : Go.Proofs.YteahhkpbjkcmhaaDoor.get 64 q.2 with
    | none =>
      simp only [hq1] at h1
      obtain ⟨_, rfl⟩ := h1
      have e : s2 = none := h2
      exact .inl ⟨e, no_point hq' hn (by rw [hq1]; rfl)⟩
    | some q1 =>
      simp only [hq1] at h1
      obtain ⟨rfl, rfl⟩ := h1
      unfold GetR at h2
      cases hq2 : Go.Proofs.YteahhkpbjkcmhaaDoor.get 64 q1.2 with
      | none =>
        simp only [hq2] at h2
        exact .inl ⟨h2.2, no_point hq' hn (by rw [hq1, Option.bind_some]; exact hq2)⟩
      | some q2 =>
        simp only [hq2] at h2
        obtain ⟨rfl, rfl⟩ := h2
        exact .inr ⟨q2.2, -1, 0, rfl, SAt.start hq' hn hq1 hq2, .inl ⟨rfl, rfl, rfl⟩⟩
theorem rd_start {w w1 : World} {a : Option Addr} {zs : List Int} {c p : Nat} (hg : (w.alloc (.cells #[.slice a zs.length c, .int .i64 0, .bool false] 77)).grownBy w1 none) (hp : p = w.heap.size) :
    RdW w ((w1.alloc (.cells #[.int .i64 0, .int .u64 0, .int .i64 0, .int .i64 64, .int .i64 0] 66)).alloc (.cells #[.int .i64 0, .int .i64 0] 64)) p w1.heap.size (w1.heap.size + 1) a zs c (.slice none 0 0) [] (some (unpack zs)) 0 0 0 64 0 0 0 := by
  have hs1 : ∀ (w : World) o, (w.alloc o).heap.size = w.heap.size + 1 := fun w o => Array.size_push _
  have g1 := World.grownBy_alloc w1 (.cells #[.int .i64 0, .int .u64 0, .int .i64 0, .int .i64 64, .int .i64 0] 66) none
  have g2 := World.grownBy_alloc (w1.alloc (.cells #[.int .i64 0, .int .u64 0, .int .i64 0, .int .i64 64, .int .i64 0] 66)) (.cells #[.int .i64 0, .int .i64 0] 64) none
  have g := gb_trans hg (gb_trans g1 g2 (by simp)) (by simp)
  have hsz := hg.size
  rw [hs1] at hsz
  subst hp
  refine ⟨?_, ?_, ?_, SOwn.nil 41 _ _, gb_trans (World.grownBy_alloc _ _ none) g (by simp), rfl, by omega, by omega, by rw [hs1, hs1]; omega, (fun q hq => by cases hq), ⟨by decide, by decide⟩⟩
  · refine RdrAt.kept ?_ g (by simp)
    refine ⟨0, false, ?_, Nat.zero_le _, rfl⟩
    refine World.rowIs_alloc w #[.slice a zs.length c, .int .i64 0, .bool false] 77 _ fun i hi => ?_
    match i, hi with
    | 0, _ => rfl
    | 1, _ => rfl
    | 2, _ => rfl
  · refine World.rowIs.alloc ?_ _
    refine World.rowIs_alloc w1 #[.int .i64 0, .int .u64 0, .int .i64 0, .int .i64 64, .int .i64 0] 66 _ fun i hi => ?_
    match i, hi with
    | 0, _ => rfl
    | 1, _ => rfl
    | 2, _ => rfl
    | 3, _ => rfl
    | 4, _ => rfl
  · have h := World.rowIs_alloc (w1.alloc (.cells #[.int .i64 0, .int .u64 0, .int .i64 0, .int .i64 64, .int .i64 0] 66)) #[.int .i64 0, .int .i64 0] 64 (OwnF 0 0) (fun i hi => by
      match i, hi with
      | 0, _ => rfl
      | 1, _ => rfl)
    rw [hs1] at h
    exact h
set_option maxRecDepth 100000 in
set_option maxHeartbeats 8000000 in
theorem d_read (a : Option Addr) (zs : List Int) (c : Nat) (w : World) (hr : Rd w a zs) (hz : (zs.length : Int) ≤ 140737488355000) (hB : Bf w) :
    Calls Tryd.prog 33 #[.slice a zs.length c] w fun e w' => ∃ vP ps ok, e = .returned (.tuple #[vP, .bool ok]) ∧ SOwn pntE 41 w' w.heap.size vP ps.length ps ∧ (ok = true → ps.length ≤ 8191) ∧ decR zs = (if ok = true ∧ okTimes ps = true then some ps else none) ∧ w.grownBy w' none := by
  have HRD : Hid (∀ w', w.grownBy w' none → Rd w' a zs) := fun w' hg => hr.grown hg (by simp)
  have HBY : Hid (∀ z ∈ zs, 0 ≤ z ∧ z ≤ 255) := hr.2
  obtain ⟨p, ep⟩ : ∃ p, p = w.heap.size := ⟨_, rfl⟩
  have EP : Hid (p = w.heap.size) := ep
  have hp0 : p ≠ 0 := by have := hB.1; omega
  have HGP : Hid (∀ wr w' : World, w.grownBy wr none → wr.grownBy w' (some p) → w.grownBy w' none) := fun wr w' h1 h2 => gb_trans h1 h2 (fun k hk => by cases hk; exact .inl (by have := EP.out; omega))
  have HT : Hid (∀ (k : Nat) (s : Option (List Bool)) (w' : World), k ≤ 64 → RdrAt w' p a zs c s → w.grownBy w' none → Calls Tryd.prog 44 #[.pointer (some ⟨p, 0, none⟩), .int .i64 k] w' fun e w'' => ∃ v s', e = .returned (.int .u64 v) ∧ 0 ≤ v ∧ v < 2 ^ k ∧ RdrAt w'' p a zs c s' ∧ GetR k s s' v ∧ w'.grownBy w'' (some p)) := fun k s w' hk h' hg => d_take p a zs c k s w' h' (HRD.out w' hg) hz hk
  have HTB : Hid (∀ (s : Option (List Bool)) (w' : World), RdrAt w' p a zs c s → w.grownBy w' none → Calls Tryd.prog 45 #[.pointer (some ⟨p, 0, none⟩)] w' fun e w'' => ∃ z s', e = .returned (.int .i64 z) ∧ rngZ z ∧ RdrAt w'' p a zs c s' ∧ BendR s s' z ∧ w'.grownBy w'' (some p)) := fun s w' h' hg => d_takeBend p a zs c s w' h' (fun w'' hg' => HRD.out w'' (HGP.out w' w'' hg hg')) hz (hB.grown hg (by simp)) hp0
  have HTC : Hid (∀ (pa pb : Nat) (s : Option (List Bool)) (w' : World), pa + pb ≤ 64 → RdrAt w' p a zs c s → w.grownBy w' none → Calls Tryd.prog 47 #[.pointer (some ⟨p, 0, none⟩), .agg #[.int .i64 pa, .int .i64 pb]] w' fun e w'' => ∃ (u : Int) (s1 : Option (List Bool)), e = .returned (.int .u64 (u * 2 ^ pb)) ∧ 0 ≤ u ∧ u < 2 ^ (64 - pa - pb) ∧ GetR (64 - pa - pb) s s1 u ∧ RdrAt w'' p a zs c (if u * 2 ^ pb = 0 then none else s1) ∧ w'.grownBy w'' (some p)) := fun pa pb s w' hab h' hg => d_takeChange p a zs c pa pb s w' h' (fun w'' hg' => HRD.out w'' (HGP.out w' w'' hg hg')) hz hab
  have HTW : Hid (∀ (s : Option (List Bool)) (w' : World), RdrAt w' p a zs c s → w.grownBy w' none → Calls Tryd.prog 46 #[.pointer (some ⟨p, 0, none⟩)] w' fun e w'' => ∃ (A w6 : Int) (s1 s2 : Option (List Bool)) (pa pb : Nat), e = .returned (.agg #[.int .i64 pa, .int .i64 pb]) ∧ (0 ≤ A ∧ A < 32) ∧ (0 ≤ w6 ∧ w6 < 64) ∧ GetR 5 s s1 A ∧ GetR 6 s1 s2 w6 ∧ RdrAt w'' p a zs c s2 ∧ ((A + (w6 + 1) ≤ 64 ∧ (pa : Int) = A ∧ (pb : Int) = 64 - A - (w6 + 1)) ∨ (64 < A + (w6 + 1) ∧ pa = 64 ∧ pb = 0)) ∧ w'.grownBy w'' (some p)) := fun s w' h' hg => d_takeWindow p a zs c s w' h' (fun w'' hg' => HRD.out w'' (HGP.out w' w'' hg hg')) hz
  have HWh : Hid (∀ (n : Nat) (w' : World), w.grownBy w' none → n ≤ 8 * zs.length → Calls Tryd.prog 49 #[.slice a zs.length c, .int .i64 (n : Int)] w' fun e w'' => e = .returned (.bool (wholeB zs n)) ∧ w' = w'') := fun n w' hg hn => whole_any a zs c n w' (HRD.out w' hg) (by omega)
  rw [← ep]
  clear hr hB ep
  go_enter Tryd.func33, Tryd.ntmps33
  go_wp2_with fail
  refine wp_scope_three (RdJ0 a zs zs.length c p w) (RdJ1 a zs zs.length c p w) (RdJ2 a zs zs.length c p w) layM0 (rdM 0) (rdM 1) rfl rfl rfl ?p0 ?p1 ?p2 ?first
  case p0 =>
    rintro a' wr ⟨P, O, vP, s7, s9, ps, st, T, V, d, pa, pb, A, B, u, rfl, hW, hE⟩
    unfold rdT
    have HW : Hid (RdW w wr p P O a zs c vP ps st T V d pa pb A B) := hW
    have HOW : Hid (SOwn pntE 41 wr p vP ps.length ps) := SOwn.base hW.pts (by have := hW.hP; have := hW.hO; omega)
    obtain ⟨m, bad, hrow, hm, hst⟩ := hW.rd
    have c1 : wr.cell? ⟨p, 1, none⟩ = some (.int .i64 m) := hrow.cell (i := 1) (by omega)
    have c2 : wr.cell? ⟨p, 2, none⟩ = some (.bool bad) := hrow.cell (i := 2) (by omega)
    have HE : Hid (EndR zs ps st) := hE
    have HST : Hid (st = if bad then none else some ((unpack zs).drop m)) := hst
    have HM : Hid (m ≤ 8 * zs.length) := hm
    clear hW hE hrow hst hm
    cases bad with
    | true =>
      have HN : Hid (decR zs = none) := by
        rcases HE.out with ⟨_, h⟩ | ⟨l, h, _⟩
        · exact h.dec
        · rw [HST.out] at h; cases h
      clear HE HST
      go_wp2
      simp only [onto, jumps]
      go_ret2
      exact ⟨vP, ps, false, rfl, HOW.out, fun h => (by cases h), (by rw [HN.out, if_neg (by simp)]), HW.out.gb⟩
    | false =>
      have HN : Hid (ps.length ≤ 8191 ∧ decR zs = if okTimes ps = true ∧ wholeB zs m = true then some ps else none) := by
        rcases HE.out with ⟨h, _⟩ | ⟨l, h, h2, h3⟩
        · rw [h] at HST; exact absurd HST.out (by simp)
        · rw [HST.out] at h
          simp only [Bool.false_eq_true, if_false, Option.some.injEq] at h
          exact ⟨h3, h2.dec HW.out.okv h3 HBY.out h.symm HM.out⟩
      clear HE HST
      go_wp2_with fail
      refine (HWh.out m wr HW.out.gb HM.out).mono ?_
      rintro e w2 ⟨rfl, rfl⟩
      go_wp2
      simp only [onto, jumps]
      go_ret2
      exact ⟨vP, ps, wholeB zs m, rfl, HOW.out, fun _ => HN.out.1, (by rw [HN.out.2]; simp only [and_comm]), HW.out.gb⟩
  case p1 =>
    rintro a' wr ⟨P, O, left, vP, s7, ps, st, n, T, V, d, pa, pb, A, B, u, rfl, hleft, hn, hn2, hW, hN⟩
    unfold rdT
    have HW : Hid (RdW w wr p P O a zs c vP ps st T V d pa pb A B) := hW
    have HNX : Hid (NextR zs n ps st T V d pa pb) := hN
    have HLn : Hid ((left : Int) = n - ps.length) := hn
    have HN2 : Hid (n ≤ 8191) := hn2
    have hl81 : left ≤ 8191 := by omega
    have hpl : ps.length ≤ 8191 := by omega
    have b0 : wr.cell? ⟨P, 0, none⟩ = some (.int .i64 T) := hW.past.cell (i := 0) (by omega)
    have b1 : wr.cell? ⟨P, 1, none⟩ = some (.int .u64 V) := hW.past.cell (i := 1) (by omega)
    obtain ⟨m, bad, hrow, hm, hst⟩ := hW.rd
    have c2 : wr.cell? ⟨p, 2, none⟩ = some (.bool bad) := hrow.cell (i := 2) (by omega)
    have HST : Hid (st = if bad then none else some ((unpack zs).drop m)) := hst
    clear hW hN hn hrow hm hst hn2
    cases bad with
    | true =>
      have HE : Hid (EndR zs ps st) := by
        rcases HNX.out with h | ⟨l, _, _, h, _⟩
        · exact .inl h
        · rw [HST.out] at h; cases h
      go_wp2
      go_step3
      exact ⟨rdJ0 P O vP s7 _ ps st T V d pa pb A B rfl HW.out HE.out, by simp [four, layM0, rdM, intOf]; omega⟩
    | false =>
      obtain ⟨l, aw, bw, hst', hS, hwin⟩ : ∃ l aw bw, st = some l ∧ SAt zs n (ps ++ [(T, V)]) (some l) T V d aw bw ∧ WinP aw bw pa pb := by
        rcases HNX.out with ⟨h, _⟩ | h
        · rw [h] at HST; exact absurd HST.out (by simp)
        · exact h
      have HS : Hid (SAt zs n (ps ++ [(T, V)]) (some l) T V d aw bw) := hS
      have HWI : Hid (WinP aw bw pa pb) := hwin
      have HSL : Hid (st = some l) := hst'
      clear hS hwin hst' HNX HST
      obtain ⟨a2, cc, rfl, _⟩ := sown_slice HW.out.pts
      have HOA : Hid (SOwn pntE 41 (wr.alloc (.cells #[.int .i64 T, .int .u64 V] 41)) (O + 1) (.slice a2 ps.length cc) ps.length ps) := SOwn.kept HW.out.pts (World.grownBy_alloc wr _ none) (Classical.em _)
      have HLA : Hid (SRd pntE (wr.alloc (.cells #[.int .i64 T, .int .u64 V] 41)) (some ⟨wr.heap.size, 0, none⟩) [(T, V)]) := plit wr [(T, V)]
      have hzA : O + 1 ≤ (wr.alloc (.cells #[.int .i64 T, .int .u64 V] 41)).heap.size := by have := HW.out.hlt; show _ ≤ (wr.alloc _).heap.size; rw [World.alloc, Array.size_push]; omega
      by_cases hl1 : left = 1
      · subst hl1
        have HE : Hid (EndR zs (ps ++ [(T, V)]) st) := by
          have := HLn.out
          have := HN2.out
          exact .inr ⟨l, HSL.out, HS.out.ends (by rw [List.length_append, List.length_singleton]; omega), by rw [List.length_append, List.length_singleton]; omega⟩
        go_wp2_with (at_builtin; refine wpList_append_s pntET rfl (.tmp 25) (.tmp 28) rfl (O + 1) (.slice a2 ps.length cc) ps.length ps rfl HOA.out (some ⟨wr.heap.size, 0, none⟩) [(T, V)] 1 1 rfl rfl HLA.out (by simp) (by omega) (by unfold maxLen; omega) hzA ?_; intro v2 w2 ho2 hg2 hn2; have HO2 : Hid (SOwn pntE 41 w2 (O + 1) v2 (ps.length + 1) (ps ++ [(T, V)])) := ho2; have HGG : Hid ((wr.alloc (.cells #[.int .i64 T, .int .u64 V] 41)).grownBy w2 (Value.slice a2 ps.length cc).ownBlock) := hg2; clear ho2 hg2 hn2)
        go_step3
        exact ⟨rdJ0 P O v2 s7 _ (ps ++ [(T, V)]) st T V d pa pb A B rfl (HW.out.app HGG.out HO2.out) HE.out, by simp [four, layM0, rdM, intOf]⟩
      · obtain ⟨lf, rfl⟩ : ∃ lf, left = lf + 1 := ⟨left - 1, by omega⟩
        have hlf : 0 < lf := by omega
        have q1 : (((lf + 1 : Nat) : Int) - 1 == 0) = false := by simp; omega
        have q2 : ((lf : Int) == 0) = false := by simp; omega
        have e1 : ((lf + 1 : Nat) : Int) - 1 = (lf : Int) := by omega
        go_wp2_with (at_builtin; refine wpList_append_s pntET rfl (.tmp 25) (.tmp 28) rfl (O + 1) (.slice a2 ps.length cc) ps.length ps rfl HOA.out (some ⟨wr.heap.size, 0, none⟩) [(T, V)] 1 1 rfl rfl HLA.out (by simp) (by omega) (by unfold maxLen; omega) hzA ?_; intro v2 w2 ho2 hg2 hn2; have HO2 : Hid (SOwn pntE 41 w2 (O + 1) v2 (ps.length + 1) (ps ++ [(T, V)])) := ho2; have HGG : Hid ((wr.alloc (.cells #[.int .i64 T, .int .u64 V] 41)).grownBy w2 (Value.slice a2 ps.length cc).ownBlock) := hg2; clear ho2 hg2 hn2)
        obtain ⟨ps', eps⟩ : ∃ ps', ps' = ps ++ [(T, V)] := ⟨_, rfl⟩
        have HW2 : Hid (RdW w w2 p P O a zs c v2 ps' st T V d pa pb A B) := by rw [eps]; exact HW.out.app HGG.out HO2.out
        have HS2 : Hid (SAt zs n ps' (some l) T V d aw bw) := by rw [eps]; exact HS.out
        have HLf : Hid ((lf : Int) = n - ps'.length ∧ (ps'.length : Int) < n) := by
          show _ ∧ _
          rw [eps, List.length_append, List.length_singleton]
          have := HLn.out
          omega
        have HV : Hid (okV V) := HW.out.val
        have k2 : w2.cell? ⟨P, 2, none⟩ = some (.int .i64 d) := HW2.out.past.cell (i := 2) (by omega)
        have HCL : Hid (Calls Tryd.prog 45 #[.pointer (some ⟨p, 0, none⟩)] w2.drew fun e w' => ∃ (z : Int) (s1 : Option (List Bool)), e = .returned (.int .i64 z) ∧ Hid (RdW w w' p P O a zs c v2 ps' s1 T V d pa pb A B) ∧ Hid (BentR zs n ps' s1 T V d z pa pb) ∧ w'.cell? ⟨P, 2, none⟩ = some (.int .i64 d) ∧ w'.frozen? ⟨P, 2, none⟩ = false) := by
          have hWd := HW2.out.grown (gb_drew (World.grownBy.refl w2 none))
          refine (HTB.out st w2.drew hWd.rd hWd.gb).mono ?_
          rintro e w3 ⟨z, s1, he, hz', hR, hb, hG⟩
          have h3 := hWd.call hR hG
          rw [HSL.out] at hb
          exact ⟨z, s1, he, h3, BentR.of HS2.out HWI.out HLf.out.2 hz' hb, h3.past.cell (i := 2) (by omega), h3.past.frozen 2⟩
        clear eps HS HW HGG HO2 HOA HLA hzA HLn b0 b1 c2 hpl hl81
        go_cut [9] from 34 to 38 (fun t9 wc => ∃ (z : Int) (s1 : Option (List Bool)), t9 = .int .u64 (lf : Int) ∧ Hid (RdW w wc p P O a zs c v2 ps' s1 T V (IntKind.i64.wrap (d + z)) pa pb A B) ∧ Hid (BentR zs n ps' s1 T V d z pa pb))
        case first =>
          go_region_with (go_at_call 45; refine HCL.out.mono ?_; rintro e w3 ⟨z, s1, rfl, HW3, HB3, v3, f3⟩)
          all_goals go_wp2_with fail
          all_goals go_meet
          all_goals
            have HWE : RdW w (w3.setCell ⟨P, 2, none⟩ (.int .i64 (IntKind.i64.wrap (d + z)))) p P O a zs c v2 ps' s1 T V (IntKind.i64.wrap (d + z)) pa pb A B := HW3.out.setP 2 _ (fun j hj => by
              match j, hj with
              | 0, _ => rfl
              | 1, _ => rfl
              | 2, _ => rfl
              | 3, _ => rfl
              | 4, _ => rfl) HV.out
            first | exact ⟨z, s1, by go_num, HWE, HB3⟩ | (rw [wrap64_is]; exact ⟨z, s1, by go_num, HWE, HB3⟩)
        case rest =>
          obtain ⟨z, s1, rfl, HWC, HBC⟩ := hcut
          clear HCL k2 HW2 HS2
          obtain ⟨d', ed⟩ : ∃ d', d' = IntKind.i64.wrap (d + z) := ⟨_, rfl⟩
          rw [← ed] at HWC
          have ED : Hid (d' = IntKind.i64.wrap (d + z)) := ed
          clear ed
          have k0 : wc.cell? ⟨P, 0, none⟩ = some (.int .i64 T) := HWC.out.past.cell (i := 0) (by omega)
          have k2 : wc.cell? ⟨P, 2, none⟩ = some (.int .i64 d') := HWC.out.past.cell (i := 2) (by omega)
          have f0 := HWC.out.past.frozen 0
          go_wp2_with fail
          obtain ⟨X, eX⟩ : ∃ X, X = wrap64 (T + d') := ⟨_, rfl⟩
          have HX : Hid (X = IntKind.i64.wrap (T + d')) := by rw [eX]; exact wrap64_is _
          have eX2 : IntKind.i64.wrap (T + d') = X := by rw [eX]; exact (wrap64_is _).symm
          first | rw [← eX] | rw [eX2]
          clear eX eX2
          obtain ⟨w5, hw5⟩ : ∃ w5, w5 = wc.setCell ⟨P, 0, none⟩ (.int .i64 X) := ⟨_, rfl⟩
          rw [← hw5]
          have HW5 : Hid (RdW w w5 p P O a zs c v2 ps' s1 X V d' pa pb A B) := by
            rw [hw5]
            exact HWC.out.setP 0 _ (fun j hj => by
              match j, hj with
              | 0, _ => rfl
              | 1, _ => rfl
              | 2, _ => rfl
              | 3, _ => rfl
              | 4, _ => rfl) HV.out
          clear hw5 HWC k0 k2 f0
          refine (HT.out 1 s1 w5 (by omega) HW5.out.rd HW5.out.gb).mono ?_
          rintro e w6 ⟨c1, s2, rfl, hc0, hc1, hR, hg, hG⟩
          have HW6 : Hid (RdW w w6 p P O a zs c v2 ps' s2 X V d' pa pb A B) := HW5.out.call hR hG
          have HG6 : Hid (GetR 1 s1 s2 c1) := hg
          have hc2 : c1 < 2 := hc1
          clear hR hg hG HW5 hc1
          by_cases hcz : c1 = 0
          · have qc : (c1 == 0) = true := by simpa using hcz
            have HNN : Hid (NextR zs n ps' s2 X V d' pa pb) := by
              show NextR _ _ _ _ _ _ _ _ _
              rw [HX.out, ED.out]
              exact HBC.out.same HLf.out.2 HV.out HG6.out (by omega)
            go_wp2
            go_step3
            exact ⟨rdJ1 P O lf v2 s7 ps' s2 n X V d' pa pb A B rfl hlf HLf.out.1 HN2.out HW6.out HNN.out, by simp [four, rdM, intOf]⟩
          · have qc : (c1 == 0) = false := by simpa using hcz
            have HC1 : Hid (c1 = 1) := by show _ = _; omega
            go_wp2_with fail
            refine (HT.out 1 s2 w6 (by omega) HW6.out.rd HW6.out.gb).mono ?_
            rintro e w7 ⟨cb, s3, rfl, hb0, hb1, hR, hg, hG⟩
            have HW7 : Hid (RdW w w7 p P O a zs c v2 ps' s3 X V d' pa pb A B) := HW6.out.call hR hG
            have HG7 : Hid (GetR 1 s2 s3 cb) := hg
            have hb2 : cb < 2 := hb1
            clear hR hg hG HW6 hb1
            by_cases hbz : cb = 0
            · have qb : (cb == 0) = true := by simpa using hbz
              have HKK : Hid (KeptR zs n ps' s3 X V d' pa pb) := by
                show KeptR _ _ _ _ _ _ _ _ _
                rw [HX.out, ED.out]
                exact HBC.out.kept HLf.out.2 HG6.out HC1.out HG7.out (by omega)
              have hbd := HWI.out.bd
              obtain ⟨pan, rfl⟩ : ∃ pan : Nat, pa = pan := ⟨pa.toNat, by omega⟩
              obtain ⟨pbn, rfl⟩ : ∃ pbn : Nat, pb = pbn := ⟨pb.toNat, by omega⟩
              go_wp2
              go_step3
              exact ⟨rdJ2 P O lf pan pbn v2 s7 ps' s3 n X V d' A B rfl hlf HLf.out.1 HN2.out (by omega) HW7.out HKK.out, by simp [four, rdM, intOf]; omega⟩
            · have qb : (cb == 0) = false := by simpa using hbz
              have HC2 : Hid (cb = 1) := by show _ = _; omega
              go_wp2_with fail
              refine (HTW.out s3 w7 HW7.out.rd HW7.out.gb).mono ?_
              rintro e w8 ⟨A5, w6', s4, s5, fa, fb, rfl, hA5, hw6, h5, h6, hR, hfab, hG⟩
              have HW8 : Hid (RdW w w8 p P O a zs c v2 ps' s5 X V d' pa pb A B) := HW7.out.call hR hG
              have hab : fa + fb ≤ 64 := by rcases hfab with h | h <;> omega
              have HNEW : Hid (∀ (s6 : Option (List Bool)) (uu : Int) (b : Bool), GetR (64 - fa - fb) s5 s6 uu → 0 ≤ uu → uu < 2 ^ (64 - fa - fb) → MustR (uu * 2 ^ fb) pa pb fa fb b → NextR zs n ps' (if b = true then (if uu * 2 ^ fb = 0 then none else s6) else none) X (xorI V (uu * 2 ^ fb)) d' fa fb) := by
                intro s6 uu b g1 g2 g3 g4
                rw [HX.out, ED.out]
                exact HBC.out.new HLf.out.2 HV.out HG6.out HC1.out HG7.out HC2.out h5 h6 hA5 hw6 hfab g1 g2 g3 g4
              have o0 : w8.cell? ⟨O, 0, none⟩ = some (.int .i64 A) := HW8.out.own.cell (i := 0) (by omega)
              have o1 : w8.cell? ⟨O, 1, none⟩ = some (.int .i64 B) := HW8.out.own.cell (i := 1) (by omega)
              have f0 := HW8.out.own.frozen 0
              have f1 := HW8.out.own.frozen 1
              clear hR hG HW7 hA5 hw6 h5 h6 hfab HBC HG6 HG7
              go_wp2_with fail
              obtain ⟨w9, hw9⟩ : ∃ w9, w9 = (w8.setCell ⟨O, 0, none⟩ (.int .i64 (fa : Int))).setCell ⟨O, 1, none⟩ (.int .i64 (fb : Int)) := ⟨_, rfl⟩
              rw [← hw9]
              have HW9 : Hid (RdW w w9 p P O a zs c v2 ps' s5 X V d' pa pb fa fb) := by
                rw [hw9]
                exact (HW8.out.setO (A' := fa) (B' := B) 0 _ (fun j hj => by
                  match j, hj with
                  | 0, _ => rfl
                  | 1, _ => rfl)).setO 1 _ (fun j hj => by
                  match j, hj with
                  | 0, _ => rfl
                  | 1, _ => rfl)
              clear hw9 HW8 o0 o1 f0 f1
              refine (HTC.out fa fb s5 w9 hab HW9.out.rd HW9.out.gb).mono ?_
              rintro e w10 ⟨uu, s6, rfl, hu0, hu1, hgu, hR, hG⟩
              have HW10 : Hid (RdW w w10 p P O a zs c v2 ps' (if uu * 2 ^ fb = 0 then none else s6) X V d' pa pb fa fb) := HW9.out.call hR hG
              have HSF : Hid (0 ≤ uu * 2 ^ fb ∧ uu * 2 ^ fb < 18446744073709551616) := shl_fit hu0 hu1 hab
              have HNW2 : Hid (∀ b : Bool, MustR (uu * 2 ^ fb) pa pb fa fb b → NextR zs n ps' (if b = true then (if uu * 2 ^ fb = 0 then none else s6) else none) X (xorI V (uu * 2 ^ fb)) d' fa fb) := fun b hb => HNEW.out s6 uu b hgu hu0 hu1 hb
              clear hR hG HW9 HNEW hgu hu0 hu1
              generalize uu * 2 ^ fb = Y at HW10 HSF HNW2
              obtain ⟨A', B', hwo, hcall⟩ := d_windowFix Y HSF.out.1 HSF.out.2
              have HCA : Hid (∀ w, Calls Tryd.prog 38 #[.int .u64 Y] w fun e w' => e = .returned (.agg #[.int .i64 (A' : Int), .int .i64 (B' : Int)]) ∧ w' = w.alloc (.cells #[.int .i64 (A' : Int), .int .i64 (B' : Int)] 64)) := hcall
              have HCT : Hid (∀ w, Calls Tryd.prog 39 #[.agg #[.int .i64 pa, .int .i64 pb], .agg #[.int .i64 (fa : Int), .int .i64 (fb : Int)]] w fun e w' => e = .returned (.bool (decide (pa ≤ (fa : Int)) && decide (pb ≤ (fb : Int)))) ∧ w' = (w.alloc (.cells #[.int .i64 pa, .int .i64 pb] 64)).alloc (.cells #[.int .i64 (fa : Int), .int .i64 (fb : Int)] 64)) := fun w => d_takes pa pb fa fb w
              obtain ⟨st10, est⟩ : ∃ st10, st10 = (if Y = 0 then none else s6) := ⟨_, rfl⟩
              rw [← est] at HW10
              have HES : Hid (st10 = (if Y = 0 then none else s6)) := est
              have HMU : Hid (∀ (b : Bool) (w' : World), w10.grownBy w' none → Calls Tryd.prog 48 #[.pointer (some ⟨p, 0, none⟩), .bool b] w' fun e w'' => e = .returned (.tuple #[]) ∧ Hid (RdW w w'' p P O a zs c v2 ps' (if b = true then st10 else none) X V d' pa pb fa fb) ∧ w''.cell? ⟨O, 0, none⟩ = some (.int .i64 (fa : Int)) ∧ w''.cell? ⟨O, 1, none⟩ = some (.int .i64 (fb : Int)) ∧ w''.cell? ⟨P, 3, none⟩ = some (.int .i64 pa) ∧ w''.cell? ⟨P, 4, none⟩ = some (.int .i64 pb)) := by
                intro b w' hg
                have h := HW10.out.grown hg
                refine (d_must p a zs c b st10 w' h.rd).mono ?_
                rintro e w'' ⟨he, h2, h4⟩
                have h5 := h.call h2 h4
                exact ⟨he, h5, h5.own.cell (i := 0) (by omega), h5.own.cell (i := 1) (by omega), h5.past.cell (i := 3) (by omega), h5.past.cell (i := 4) (by omega)⟩
              have HNW3 : Hid (∀ b : Bool, MustR Y pa pb fa fb b → NextR zs n ps' (if b = true then st10 else none) X (xorI V Y) d' fa fb) := fun b hb => by rw [HES.out]; exact HNW2.out b hb
              have HG1 : Hid (∀ o, w10.grownBy ((w10.alloc o).drew) none) := fun o => gb_drew (World.grownBy_alloc _ _ none)
              have HG3 : Hid (∀ o1 o2 o3, w10.grownBy ((((w10.alloc o1).alloc o2).alloc o3).drew) none) := fun o1 o2 o3 => gb_drew (gb_trans (World.grownBy_alloc _ _ none) (gb_trans (World.grownBy_alloc _ _ none) (World.grownBy_alloc _ _ none) (by simp)) (by simp))
              have o0 : w10.cell? ⟨O, 0, none⟩ = some (.int .i64 (fa : Int)) := HW10.out.own.cell (i := 0) (by omega)
              have o1 : w10.cell? ⟨O, 1, none⟩ = some (.int .i64 (fb : Int)) := HW10.out.own.cell (i := 1) (by omega)
              have k3 : w10.cell? ⟨P, 3, none⟩ = some (.int .i64 pa) := HW10.out.past.cell (i := 3) (by omega)
              have k4 : w10.cell? ⟨P, 4, none⟩ = some (.int .i64 pb) := HW10.out.past.cell (i := 4) (by omega)
              have hOlt : O < w10.heap.size := HW10.out.own.lt
              have hPlt : P < w10.heap.size := HW10.out.past.lt
              have HWO : Hid (0 < Y → (A' : Int) = min (leadN Y : Int) 31 ∧ (B' : Int) = trailN Y) := hwo
              clear hwo hcall est HNW2
              go_upto_region 20 with fail
              go_cut [9] from 54 to 65 (fun t9 wd => t9 = .int .u64 (lf : Int) ∧ ∃ s8, Hid (RdW w wd p P O a zs c v2 ps' s8 X V d' pa pb fa fb) ∧ Hid (NextR zs n ps' s8 X (xorI V Y) d' fa fb))
              case first =>
                by_cases hAB : A' = fa ∧ B' = fb
                · obtain ⟨rfl, rfl⟩ := hAB
                  have heq : ∀ w, (binOp .eql 64 (.agg #[.int .i64 (A' : Int), .int .i64 (B' : Int)]) (.agg #[.int .i64 (A' : Int), .int .i64 (B' : Int)])).run Tryd.prog w = .ok (.bool true) w := fun w => by have h := eql63 A' B' A' B' w; simpa using h
                  have HMR : Hid (MustR Y pa pb A' B' (!decide (pa ≤ (A' : Int)) || !decide (pb ≤ (B' : Int)))) := by
                    intro hY
                    obtain ⟨g1, g2⟩ := HWO.out hY
                    simp [← g1, ← g2]
                    omega
                  go_region_with (first | (go_at_call 38; refine (HCA.out _).mono ?_; rintro e w' ⟨rfl, rfl⟩) | (go_at_call 39; refine (HCT.out _).mono ?_; rintro e w' ⟨rfl, rfl⟩) | (go_at_call 48; refine (HMU.out _ _ ?h1).mono ?_; (case h1 => exact HG3.out _ _ _); rintro e w11 ⟨rfl, HW11, j0, j1, j3, j4⟩))
                  all_goals go_wp2_with fail
                  all_goals go_meet
                  all_goals exact ⟨rfl, _, HW11, HNW3.out _ HMR.out⟩
                · have hne : ¬ ((A' : Int) = fa ∧ (B' : Int) = fb) := fun h => hAB (by omega)
                  have heq : ∀ w, (binOp .eql 64 (.agg #[.int .i64 (A' : Int), .int .i64 (B' : Int)]) (.agg #[.int .i64 (fa : Int), .int .i64 (fb : Int)])).run Tryd.prog w = .ok (.bool false) w := fun w => by have h := eql63 A' B' fa fb w; rw [h]; simp; omega
                  have HMR : Hid (MustR Y pa pb fa fb false) := by
                    intro hY
                    obtain ⟨g1, g2⟩ := HWO.out hY
                    simp only [Bool.false_eq_true, false_iff]
                    rintro ⟨h1, h2, _⟩
                    exact hne ⟨by omega, by omega⟩
                  first
                  | (go_region_with (first | (go_at_call 38; refine (HCA.out _).mono ?_; rintro e w' ⟨rfl, rfl⟩) | (go_at_call 48; refine (HMU.out _ _ ?h1).mono ?_; (case h1 => exact HG1.out _); rintro e w11 ⟨rfl, HW11, j0, j1, j3, j4⟩)))
                  | fail "region 20"
                  all_goals go_wp2_with fail
                  all_goals go_meet
                  all_goals exact ⟨rfl, _, HW11, HNW3.out _ HMR.out⟩
              case rest =>
                obtain ⟨rfl, s8, HWD, HNN⟩ := hcut
                have o0 : wc.cell? ⟨O, 0, none⟩ = some (.int .i64 (fa : Int)) := HWD.out.own.cell (i := 0) (by omega)
                have o1 : wc.cell? ⟨O, 1, none⟩ = some (.int .i64 (fb : Int)) := HWD.out.own.cell (i := 1) (by omega)
                have k1 : wc.cell? ⟨P, 1, none⟩ = some (.int .u64 V) := HWD.out.past.cell (i := 1) (by omega)
                have k3 : wc.cell? ⟨P, 3, none⟩ = some (.int .i64 pa) := HWD.out.past.cell (i := 3) (by omega)
                have k4 : wc.cell? ⟨P, 4, none⟩ = some (.int .i64 pb) := HWD.out.past.cell (i := 4) (by omega)
                have f1 := HWD.out.past.frozen 1
                have f3 := HWD.out.past.frozen 3
                have f4 := HWD.out.past.frozen 4
                have hokY : okV Y := ⟨HSF.out.1, by have e64 : (2 : Int) ^ 64 = 18446744073709551616 := rfl; have := HSF.out.2; omega⟩
                have hx : bits .xor .u64 V Y = xorI V Y := by
                  obtain ⟨g1, g2⟩ := HV.out
                  exact u64_xor V Y g1 (by have e64 : (2 : Int) ^ 64 = 18446744073709551616 := rfl; omega) HSF.out.1 (by have := HSF.out.2; omega)
                have HWZ : Hid (RdW w (((wc.setCell ⟨P, 3, none⟩ (.int .i64 (fa : Int))).setCell ⟨P, 4, none⟩ (.int .i64 (fb : Int))).setCell ⟨P, 1, none⟩ (.int .u64 (xorI V Y))) p P O a zs c v2 ps' s8 X (xorI V Y) d' fa fb fa fb) := ((HWD.out.setP (T' := X) (V' := V) (d' := d') (pa' := fa) (pb' := pb) 3 _ (fun j hj => by
                  match j, hj with
                  | 0, _ => rfl
                  | 1, _ => rfl
                  | 2, _ => rfl
                  | 3, _ => rfl
                  | 4, _ => rfl) HV.out).setP (T' := X) (V' := V) (d' := d') (pa' := fa) (pb' := fb) 4 _ (fun j hj => by
                  match j, hj with
                  | 0, _ => rfl
                  | 1, _ => rfl
                  | 2, _ => rfl
                  | 3, _ => rfl
                  | 4, _ => rfl) HV.out).setP 1 _ (fun j hj => by
                  match j, hj with
                  | 0, _ => rfl
                  | 1, _ => rfl
                  | 2, _ => rfl
                  | 3, _ => rfl
                  | 4, _ => rfl) (xorI_bd HV.out hokY)
                clear hokY
                go_wp2
                go_step3
                exact ⟨rdJ1 P O lf v2 (.int .u64 Y) ps' s8 n X (xorI V Y) d' fa fb fa fb rfl hlf HLf.out.1 HN2.out HWZ.out HNN.out, by simp [four, rdM, intOf]⟩
  case p2 =>
    rintro a' wr ⟨P, O, left, pa, pb, vP, s7, ps, st, n, T, V, d, A, B, u, rfl, hleft, hn, hn2, hab, hW, hK⟩
    unfold rdT
    have HW : Hid (RdW w wr p P O a zs c vP ps st T V d pa pb A B) := hW
    have HK : Hid (KeptR zs n ps st T V d pa pb) := hK
    have HLn : Hid ((left : Int) = n - ps.length) := hn
    have b1 : wr.cell? ⟨P, 1, none⟩ = some (.int .u64 V) := hW.past.cell (i := 1) (by omega)
    have b3 : wr.cell? ⟨P, 3, none⟩ = some (.int .i64 (pa : Int)) := hW.past.cell (i := 3) (by omega)
    have b4 : wr.cell? ⟨P, 4, none⟩ = some (.int .i64 (pb : Int)) := hW.past.cell (i := 4) (by omega)
    clear hW hK hn
    have HCL : Hid (Calls Tryd.prog 47 #[.pointer (some ⟨p, 0, none⟩), .agg #[.int .i64 (pa : Int), .int .i64 (pb : Int)]] wr.drew fun e w' => ∃ (X Y : Int) (s2 : Option (List Bool)), e = .returned (.int .u64 X) ∧ Hid (RdW w w' p P O a zs c vP ps s2 T V d pa pb A B) ∧ Hid (NextR zs n ps s2 T Y d pa pb) ∧ Hid (okV Y) ∧ w'.cell? ⟨P, 1, none⟩ = some (.int .u64 V) ∧ w'.frozen? ⟨P, 1, none⟩ = false ∧ bits .xor .u64 V X = Y) := by
      have hWd := HW.out.grown (gb_drew (World.grownBy.refl wr none))
      refine (HTC.out pa pb st wr.drew hab hWd.rd hWd.gb).mono ?_
      rintro e w3 ⟨u, s1, rfl, hu0, hu1, hg, hR, hG⟩
      have h3 := hWd.call hR hG
      obtain ⟨z0, z1⟩ := shl_fit hu0 hu1 hab
      have hokx : okV (u * 2 ^ pb) := ⟨z0, by have e64 : (2 : Int) ^ 64 = 18446744073709551616 := rfl; omega⟩
      have hV := HW.out.val
      refine ⟨u * 2 ^ pb, xorI V (u * 2 ^ pb), _, rfl, h3, HK.out.next (by have := HLn.out; omega) hV hg, xorI_bd hV hokx, h3.past.cell (i := 1) (by omega), h3.past.frozen 1, ?_⟩
      obtain ⟨g1, g2⟩ := hV
      exact u64_xor V (u * 2 ^ pb) g1 (by have e64 : (2 : Int) ^ 64 = 18446744073709551616 := rfl; omega) z0 (by omega)
    go_wp2_with fail
    go_region_with (go_at_call 47; refine HCL.out.mono ?_; rintro e w3 ⟨X, Y, s2, rfl, HW3, HN3, HY3, v3, f3, hxy⟩)
    all_goals go_wp2
    all_goals go_step3
    all_goals
      have HWE : RdW w (w3.setCell ⟨P, 1, none⟩ (.int .u64 Y)) p P O a zs c vP ps s2 T Y d pa pb A B := HW3.out.setP 1 _ (fun j hj => by
        match j, hj with
        | 0, _ => rfl
        | 1, _ => rfl
        | 2, _ => rfl
        | 3, _ => rfl
        | 4, _ => rfl) HY3.out
      exact ⟨rdJ1 P O left vP s7 ps s2 n T Y d pa pb A B rfl hleft HLn.out hn2 HWE HN3.out, by simp [four, rdM, intOf]⟩
  case first =>
    intro go_on
    have GO : Hid (∀ a' w', RdJ1 a zs zs.length c p w a' w' → _) := go_on
    clear go_on
    go_wp2_with fail
    refine (d_newTrail _).mono ?_
    rintro e w1 ⟨rfl, hg1⟩
    have HG1 : Hid ((w.alloc (.cells #[.slice a zs.length c, .int .i64 0, .bool false] 77)).grownBy w1 none) := hg1
    clear hg1
    go_wp2_with fail
    obtain ⟨w2, hw2⟩ : ∃ w2, w2 = (w1.alloc (.cells #[.int .i64 0, .int .u64 0, .int .i64 0, .int .i64 64, .int .i64 0] 66)).alloc (.cells #[.int .i64 0, .int .i64 0] 64) := ⟨_, rfl⟩
    rw [← hw2, ← EP.out]
    have HLW : Hid (RdW w w2 p w1.heap.size (w1.heap.size + 1) a zs c (.slice none 0 0) [] (some (unpack zs)) 0 0 0 64 0 0 0) := by rw [hw2]; exact rd_start HG1.out EP.out
    generalize w1.heap.size = P at HLW ⊢
    generalize P + 1 = O at HLW ⊢
    clear hw2 HG1
    refine (HT.out 13 _ w2 (by omega) HLW.out.rd HLW.out.gb).mono ?_
    rintro e w3 ⟨n, s0, rfl, hn0, hn1, hR, hg, hG⟩
    have HW3 : Hid (RdW w w3 p P O a zs c (.slice none 0 0) [] s0 0 0 0 64 0 0 0) := HLW.out.call hR hG
    have HG0 : Hid (GetR 13 (some (unpack zs)) s0 n) := hg
    have hn8 : n ≤ 8191 := by have e : (2 : Int) ^ 13 = 8192 := rfl; omega
    obtain ⟨left, rfl⟩ : ∃ left : Nat, n = left := ⟨n.toNat, by omega⟩
    have HN8 : Hid ((left : Int) ≤ 8191) := hn8
    clear hR hg hG hn1 HLW
    by_cases h0 : (left : Int) = 0
    · have q0 : ((left : Int) == 0) = true := by simpa using h0
      have HE : Hid (EndR zs [] s0) := EndR.start HG0.out h0
      clear HG0
      go_wp2
      go_step3
      exact rdJ0 P O _ _ _ [] s0 0 0 0 64 0 0 0 rfl HW3.out HE.out
    · have q0 : ((left : Int) == 0) = false := by simpa using h0
      have HN0 : Hid ((left : Int) ≠ 0) := h0
      go_wp2_with fail
      refine (HT.out 64 s0 w3 (by omega) HW3.out.rd HW3.out.gb).mono ?_
      rintro e w4 ⟨x, s1, rfl, hx0, hx1, hR, hg, hG⟩
      have HW4 : Hid (RdW w w4 p P O a zs c (.slice none 0 0) [] s1 0 0 0 64 0 0 0) := HW3.out.call hR hG
      have HGR1 : Hid (GetR 64 s0 s1 x) := hg
      have b0 : w4.cell? ⟨P, 0, none⟩ = some (.int .i64 0) := HW4.out.past.cell (i := 0) (by omega)
      have f0 := HW4.out.past.frozen 0
      clear hR hg hG hx1
      go_wp2_with fail
      obtain ⟨X, eX⟩ : ∃ X, X = wrap64 x := ⟨_, rfl⟩
      have HX : Hid (X = IntKind.i64.wrap x) := by rw [eX]; exact wrap64_is x
      rw [← eX]
      clear eX
      obtain ⟨w5, hw5⟩ : ∃ w5, w5 = w4.setCell ⟨P, 0, none⟩ (.int .i64 X) := ⟨_, rfl⟩
      rw [← hw5]
      have HW5 : Hid (RdW w w5 p P O a zs c (.slice none 0 0) [] s1 X 0 0 64 0 0 0) := by
        rw [hw5]
        exact HW4.out.setP 0 _ (fun j hj => by
          match j, hj with
          | 0, _ => rfl
          | 1, _ => rfl
          | 2, _ => rfl
          | 3, _ => rfl
          | 4, _ => rfl) HW4.out.val
      clear hw5 HW4 b0 f0
      refine (HT.out 64 s1 w5 (by omega) HW5.out.rd HW5.out.gb).mono ?_
      rintro e w6 ⟨y, s2, rfl, hy0, hy1, hR, hg, hG⟩
      have HW6 : Hid (RdW w w6 p P O a zs c (.slice none 0 0) [] s2 X 0 0 64 0 0 0) := HW5.out.call hR hG
      have HNX : Hid (NextR zs (left : Int) [] s2 X y 0 64 0) := by
        show NextR _ _ _ _ _ _ _ _ _
        rw [HX.out]
        exact NextR.start HG0.out HN0.out HGR1.out hg
      have b1 : w6.cell? ⟨P, 1, none⟩ = some (.int .u64 0) := HW6.out.past.cell (i := 1) (by omega)
      have f1 := HW6.out.past.frozen 1
      have HW7 : Hid (RdW w (w6.setCell ⟨P, 1, none⟩ (.int .u64 y)) p P O a zs c (.slice none 0 0) [] s2 X y 0 64 0 0 0) := HW6.out.setP 1 _ (fun j hj => by
        match j, hj with
        | 0, _ => rfl
        | 1, _ => rfl
        | 2, _ => rfl
        | 3, _ => rfl
        | 4, _ => rfl) ⟨hy0, hy1⟩
      have HLP : Hid (0 < left) := by show _ < _; omega
      clear hR hg hG hy1 HW5 HG0 HGR1
      go_wp2
      go_step3
      refine ‹∀ (a : Act) (w : World), Code.wp Tryd.prog _ _ a w → _› _ _ (GO.out _ _ ?_)
      exact rdJ1 P O left (.slice none 0 0) _ [] s2 left X y 0 64 0 0 0 rfl HLP.out (by simp) HN8.out HW7.out HNX.out
end Go.Proofs.YteahhkpbjkcmhaaDoor
