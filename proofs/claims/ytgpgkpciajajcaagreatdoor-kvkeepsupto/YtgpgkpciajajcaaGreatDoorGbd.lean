/- Several texts in one: Kb, Kc, Kd, Ke. -/
import Derived.Test.YtgpgkpciajajcaaGreatDoorGbc
import Derived.Test.YtgpgkpciajajcaaGreatDoorGai
import Derived.Deep.RegionHeld3
import Derived.Deep.CutRange
import Derived.Laws.ResultCell
import Derived.Test.YtgpgkpciajajcaaGreatDoorGae
/- Package kv: the maths of its records and registers. -/
namespace Go.Proofs.YtgpgkpciajajcaaGreatDoor
open Go.RowKit
set_option linter.unusedVariables false
set_option maxRecDepth 20000

/-- A register: its version, its bytes. -/
abbrev Reg := Nat × ByteArray
def recL (k : ByteArray) (r : Reg) : List Int := (enc k.size ++ sInts k) ++ (enc r.1 ++ (enc r.2.size ++ sInts r.2))
theorem str_back (s : ByteArray) : strOfNums (sInts s) = s := by
  unfold strOfNums sInts
  rw [List.map_map]
  have e : ((fun n : Int => UInt8.ofNat n.toNat) ∘ fun b : UInt8 => (b.toNat : Int)) = id := by
    funext b
    simp
  rw [e, List.map_id]
theorem textR_at (xs ys : List Int) (s : ByteArray) (hs : s.size < 18446744073709551616) (zs : List Int) (hz : zs = xs ++ ((enc s.size ++ sInts s) ++ ys)) (p : Int) (hp : p = xs.length) : textR zs p = (s, ((xs.length + ((enc s.size).length + s.size) : Nat) : Int), 0) := by
  have hl := sInts_len s
  have hu := uintR_at xs (sInts s ++ ys) s.size hs zs (by rw [hz]; simp) p hp
  unfold textR
  rw [hu]
  dsimp only
  rw [if_pos rfl, if_neg (by rw [hz]; simp [hl]; omega)]
  have e1 : ((xs.length : Int) + ((enc s.size).length : Int)).toNat = xs.length + (enc s.size).length := by omega
  rw [e1, Int.toNat_natCast, hz]
  have e2 : (xs ++ ((enc s.size ++ sInts s) ++ ys)).drop (xs.length + (enc s.size).length) = sInts s ++ ys := by
    rw [← List.append_assoc, ← List.append_assoc, List.append_assoc (xs ++ enc s.size)]
    exact List.drop_left' (by simp)
  rw [e2, List.take_left' hl, str_back]
  simp only [Prod.mk.injEq, and_true, true_and]
  omega
/-- A record that a register has. -/
structure RegOk (k : ByteArray) (r : Reg) : Prop where
  key : 1 ≤ k.size ∧ k.size ≤ 64
  ver : 1 ≤ r.1 ∧ r.1 < 18446744073709551616
  size : r.2.size ≤ 65536
theorem recL_len (k : ByteArray) (r : Reg) : (recL k r).length = ((enc k.size).length + k.size) + ((enc r.1).length + ((enc r.2.size).length + r.2.size)) := by
  unfold recL
  simp [sInts_len]
  omega
theorem rec_key (k : ByteArray) (r : Reg) (h : RegOk k r) : textR (recL k r) 0 = (k, (((enc k.size).length + k.size : Nat) : Int), 0) := by
  have h1 := h.key
  have := textR_at [] (enc r.1 ++ (enc r.2.size ++ sInts r.2)) k (by omega) (recL k r) rfl 0 rfl
  rw [this]
  simp
theorem rec_ver (k : ByteArray) (r : Reg) (h : RegOk k r) (p : Int) (hp : p = (((enc k.size).length + k.size : Nat) : Int)) : uintR (recL k r) p = ((r.1 : Int), (((enc k.size).length + k.size + (enc r.1).length : Nat) : Int), 0) := by
  have hl := sInts_len k
  have := uintR_at (enc k.size ++ sInts k) (enc r.2.size ++ sInts r.2) r.1 h.ver.2 (recL k r) rfl p (by rw [hp]; simp [hl])
  rw [this]
  simp [hl]
theorem rec_data (k : ByteArray) (r : Reg) (h : RegOk k r) (p : Int) (hp : p = (((enc k.size).length + k.size + (enc r.1).length : Nat) : Int)) : textR (recL k r) p = (r.2, ((recL k r).length : Int), 0) := by
  have hl := sInts_len k
  have h2 := h.size
  have := textR_at ((enc k.size ++ sInts k) ++ enc r.1) [] r.2 (by omega) (recL k r) (by unfold recL; simp) p (by rw [hp]; simp [hl]; omega)
  rw [this, recL_len]
  simp [hl]
  omega
/-- What the records say: the later one holds. -/
def setR (F : ByteArray → Option Reg) (s : ByteArray) (o : Option Reg) : ByteArray → Option Reg := fun x => if x = s then o else F x
theorem setR_same (F : ByteArray → Option Reg) (s : ByteArray) (o : Option Reg) : setR F s o s = o := if_pos rfl
theorem setR_other (F : ByteArray → Option Reg) {s x : ByteArray} (o : Option Reg) (h : x ≠ s) : setR F s o x = F x := if_neg h
def regs (rs : List (ByteArray × Reg)) : ByteArray → Option Reg := rs.foldl (fun F q => setR F q.1 (some q.2)) (fun _ => none)
theorem regs_snoc (rs : List (ByteArray × Reg)) (k : ByteArray) (r : Reg) : regs (rs ++ [(k, r)]) = setR (regs rs) k (some r) := by
  unfold regs
  rw [List.foldl_append]
  rfl
def recsL (rs : List (ByteArray × Reg)) : List (List Int) := rs.map fun q => recL q.1 q.2
theorem recsL_snoc (rs : List (ByteArray × Reg)) (k : ByteArray) (r : Reg) : recsL (rs ++ [(k, r)]) = recsL rs ++ [recL k r] := by
  unfold recsL
  simp
theorem recsL_len (rs : List (ByteArray × Reg)) : (recsL rs).length = rs.length := by
  unfold recsL
  simp
/-- Every record is that of a register. -/
def AllOk (rs : List (ByteArray × Reg)) : Prop := ∀ q ∈ rs, RegOk q.1 q.2 ∧ (recL q.1 q.2).length ≤ 65536
theorem AllOk.snoc {rs : List (ByteArray × Reg)} {k : ByteArray} {r : Reg} (h : AllOk rs) (h1 : RegOk k r) (h2 : (recL k r).length ≤ 65536) : AllOk (rs ++ [(k, r)]) := by
  intro q hq
  rcases List.mem_append.1 hq with h' | h'
  · exact h q h'
  · simp at h'
    subst h'
    exact ⟨h1, h2⟩
/-- A register that is told is one that was set. -/
theorem regs_okF : ∀ (rs : List (ByteArray × Reg)) (F : ByteArray → Option Reg), (∀ k r, F k = some r → RegOk k r ∧ (recL k r).length ≤ 65536) → AllOk rs → ∀ k r, rs.foldl (fun F q => setR F q.1 (some q.2)) F k = some r → RegOk k r ∧ (recL k r).length ≤ 65536
  | [], F, hF, _, k, r, h => hF k r h
  | q :: rs, F, hF, ha, k, r, h => regs_okF rs (setR F q.1 (some q.2)) (fun k r h => by
      by_cases e : k = q.1
      · subst e
        rw [setR_same] at h
        cases h
        exact ha q (by simp)
      · rw [setR_other _ _ e] at h
        exact hF k r h) (fun q hq => ha q (List.mem_cons_of_mem _ hq)) k r h
theorem regs_ok {rs : List (ByteArray × Reg)} (h : AllOk rs) : ∀ k r, regs rs k = some r → RegOk k r ∧ (recL k r).length ≤ 65536 :=
  regs_okF rs _ (fun _ _ h => by cases h) h
end Go.Proofs.YtgpgkpciajajcaaGreatDoor

/- Package kv: keys, a register's next, its record, laid and read. -/
namespace Go.Proofs.YtgpgkpciajajcaaGreatDoor
open Go.RowKit Go.Maps
set_option linter.unusedVariables false
set_option maxRecDepth 20000

/-- A register in a block of its own. -/
def RgAt (w : World) (g : Nat) (x y : Value) : Prop := w.heap[g]? = some (.cells #[x, y] 90 (0, 0))
section
variable {w w' : World} {g : Nat} {x y : Value}
theorem RgAt.c0 (h : RgAt w g x y) : w.cell? ⟨g, 0, none⟩ = some x := by rw [cell_of_row w g 0 _ _ _ h]; rfl
theorem RgAt.c1 (h : RgAt w g x y) : w.cell? ⟨g, 1, none⟩ = some y := by rw [cell_of_row w g 1 _ _ _ h]; rfl
theorem RgAt.f0 (h : RgAt w g x y) : w.frozen? ⟨g, 0, none⟩ = false := by unfold RgAt at h; simp [World.frozen?, h]
theorem RgAt.f1 (h : RgAt w g x y) : w.frozen? ⟨g, 1, none⟩ = false := by unfold RgAt at h; simp [World.frozen?, h]
theorem RgAt.lt (h : RgAt w g x y) : g < w.heap.size := (Array.getElem?_eq_some_iff.1 h).1
theorem RgAt.grown (h : RgAt w g x y) (hg : w.grownBy w' none) : RgAt w' g x y := (hg.block g h.lt (by simp)).trans h
theorem RgAt.stay (h : RgAt w g x y) (hb : w'.heap[g]? = w.heap[g]?) : RgAt w' g x y := hb.trans h
theorem RgAt.new (w : World) (x y : Value) : RgAt (w.alloc (.cells #[x, y] 90)) w.heap.size x y := heap_alloc_new w _
theorem RgAt.set (h : RgAt w g x y) (x' y' : Value) : RgAt ((w.setCell ⟨g, 0, none⟩ x').setCell ⟨g, 1, none⟩ y') g x' y' := by
  have h1 : (w.setCell ⟨g, 0, none⟩ x').heap[g]? = some (.cells #[x', y] 90 (0, 0)) := by
    unfold RgAt at h
    rw [setCell_eq_setRow w g 0 _ 90 (0, 0) _ h, setRow_heap w g _ _ 90 _ h]
    rfl
  unfold RgAt
  rw [setCell_eq_setRow _ g 1 _ 90 (0, 0) _ h1, setRow_heap _ g _ _ 90 _ h1]
  rfl
theorem RgAt.var (h : RgAt w g x y) : (loadVar 90 ⟨g, 0, none⟩).run Tryz.prog w = .ok (.agg #[x, y]) w :=
  run_loadVar_row w g 90 90 _ _ (.struct (Tryz.prog.fieldsOf 90)) h (by kernel_rfl) rfl (by kernel_rfl)
end
theorem gb_pair {w w1 : World} {g : Nat} (hg : w.grownBy w1 none) (hn : w.heap.size ≤ g) (u v : Value) : w.grownBy ((w1.setCell ⟨g, 0, none⟩ u).setCell ⟨g, 1, none⟩ v) none :=
  gb_trans (gb_trans hg (gb_set (g := g) rfl) (fun k hk => .inl (by cases hk; exact hn))) (gb_set (g := g) rfl) (fun k hk => .inl (by cases hk; exact hn))
theorem results_cell2 {fn : Func} {p t : Tmp} {ty : TypeId} (h : fn.results = #[.cell p ty, .tmp t]) (tmps : Array Value) (P : Program) (w : World) (ad : Addr) (v : Value) (h1 : tmps.getD p undef = .pointer (some ad)) (h2 : (loadVar ty ad).run P w = .ok v w) :
    (results fn tmps).run P w = .ok (.tuple #[v, tmps.getD t undef]) w := by
  rw [Array.getD_eq_getD_getElem?] at h1
  simp only [results, h]
  simp [h1, asAddr, h2]
theorem results_mid {fn : Func} {p t u : Tmp} {ty : TypeId} (h : fn.results = #[.tmp t, .cell p ty, .tmp u]) (tmps : Array Value) (P : Program) (w : World) (ad : Addr) (v : Value) (h1 : tmps.getD p undef = .pointer (some ad)) (h2 : (loadVar ty ad).run P w = .ok v w) :
    (results fn tmps).run P w = .ok (.tuple #[tmps.getD t undef, v, tmps.getD u undef]) w := by
  rw [Array.getD_eq_getD_getElem?] at h1
  simp only [results, h]
  simp [h1, asAddr, h2]
/-- Is it a key? -/
def kB (s : ByteArray) : Bool := decide (1 ≤ s.size) && decide (s.size ≤ 64)
theorem kB_true {s : ByteArray} (h : 1 ≤ s.size ∧ s.size ≤ 64) : kB s = true := by unfold kB; simp; omega
theorem kB_size {s : ByteArray} (h : kB s = true) : 1 ≤ s.size ∧ s.size ≤ 64 := by unfold kB at h; simp at h; omega
theorem k_isKey (s : ByteArray) (hs : (s.size : Int) ≤ 9223372036854775807) (w : World) :
    Calls Tryz.prog 69 #[.string s] w fun e w' => e = .returned (.bool (kB s)) ∧ w = w' := by
  obtain ⟨b1, hb1⟩ : ∃ b, b = decide (1 ≤ s.size) := ⟨_, rfl⟩
  obtain ⟨b2, hb2⟩ : ∃ b, b = decide (s.size ≤ 64) := ⟨_, rfl⟩
  have hk : kB s = (b1 && b2) := by rw [hb1, hb2]; rfl
  have q1 : decide ((1 : Int) ≤ (s.size : Int)) = b1 := by rw [hb1]; simp; omega
  have q2 : decide ((s.size : Int) ≤ 64) = b2 := by rw [hb2]; simp; omega
  rw [hk]
  clear hb1 hb2 hk
  cases b1 with
  | false =>
    go_enter Tryz.func69, Tryz.ntmps69
    go_wp2
    go_ret
    exact ⟨rfl, rfl⟩
  | true =>
    go_enter Tryz.func69, Tryz.ntmps69
    go_wp2
    go_ret
    exact ⟨rfl, rfl⟩
/-- The register behind a change. -/
theorem k_next (v : Nat) (s0 : ByteArray) (a : Option Addr) (d : List Int) (M c : Nat) (w : World) (hr : Rd w a d) (hM : d.length = M) (hv : v < 18446744073709551615) :
    Calls Tryz.prog 42 #[.agg #[.int .u64 (v : Int), .string s0], .slice a M c] w fun e w' => e = .returned (.agg #[.int .u64 ((v : Int) + 1), .string (strOfNums d)]) ∧ w.grownBy w' none := by
  obtain ⟨W1, eW1⟩ : ∃ W1, W1 = (w.alloc (.cells #[.int .u64 (v : Int), .string s0] 90)).alloc (.cells #[.int .u64 0, .string ⟨#[]⟩] 90) := ⟨_, rfl⟩
  have hg1 : w.grownBy (w.alloc (.cells #[.int .u64 (v : Int), .string s0] 90)) none := World.grownBy_alloc w _ none
  have hgw : w.grownBy W1 none := by rw [eW1]; exact hg1.trans (World.grownBy_alloc _ _ none)
  have hs1 : (w.alloc (.cells #[.int .u64 (v : Int), .string s0] 90)).heap.size = w.heap.size + 1 := Array.size_push _
  have HO1 : RgAt W1 w.heap.size (.int .u64 (v : Int)) (.string s0) := by rw [eW1]; exact (RgAt.new w _ _).grown (World.grownBy_alloc _ _ none)
  have HO2 : RgAt W1 (w.heap.size + 1) (.int .u64 0) (.string ⟨#[]⟩) := by rw [eW1, ← hs1]; exact RgAt.new _ _ _
  have hcv := fun w1 hg => conv_rd w1 a d M c (hr.grown (w := w) (row := none) (w' := w1) hg (by simp)) hM
  have hcv1 := hcv W1 hgw
  have c0 := HO1.c0
  have d0 := HO2.c0
  have d1 := HO2.c1
  have f0 := HO2.f0
  have f1 := HO2.f1
  have HF : Hid (w.grownBy W1 none ∧ RgAt W1 (w.heap.size + 1) (.int .u64 0) (.string ⟨#[]⟩)) := ⟨hgw, HO2⟩
  have q1 : max ((v : Int) + 1) 1 = (v : Int) + 1 := by omega
  have q2 : (v : Int) + 1 ≤ 18446744073709551615 := by omega
  clear hcv hgw HO1 HO2 hg1 hs1 hr hM
  go_enter Tryz.func42, Tryz.ntmps42
  go_upto_region 1 with fail
  rw [← eW1]
  clear eW1
  go_wp2
  exact bodyPost_ret (results_cell Tryz.results42 _ _ _ _ _ rfl (HF.out.2.set _ _).var) rfl ⟨rfl, gb_pair HF.out.1 (Nat.le_succ _) _ _⟩
/-- What lay has laid so far: pieces and where they lie. -/
structure LayL (w W : World) (v : Nat) (s : ByteArray) (L : List (List Int × Nat × Nat × Nat)) : Prop where
  grown : w.grownBy W none
  box : RgAt W w.heap.size (.int .u64 (v : Int)) (.string s)
  own : ∀ p ∈ L, Own W w.heap.size p.2.1 p.2.2.1 p.2.2.2 p.1
theorem LayL.next {w W W' : World} {v : Nat} {s : ByteArray} {L : List (List Int × Nat × Nat × Nat)} (h : LayL w W v s L) (hg : W.grownBy W' none) : LayL w W' v s L :=
  ⟨h.grown.trans hg, h.box.grown hg, fun p hp => (h.own p hp).kept hg (by simp)⟩
theorem LayL.add {w W W' : World} {v : Nat} {s : ByteArray} {L : List (List Int × Nat × Nat × Nat)} (h : LayL w W v s L) (hg : W.grownBy W' none) {g N c : Nat} {zs : List Int} (ho : Own W' W.heap.size g N c zs) : LayL w W' v s ((zs, g, N, c) :: L) := by
  have h' := h.next hg
  refine ⟨h'.grown, h'.box, fun p hp => ?_⟩
  rcases List.mem_cons.1 hp with rfl | hp
  · exact ho.base h.grown.size
  · exact h'.own p hp
theorem lay_text {w W : World} {v : Nat} {s : ByteArray} {L : List (List Int × Nat × Nat × Nat)} (h : LayL w W v s L) (t : ByteArray) (ht : t.size ≤ 140737488354000) :
    Calls Tryz.prog 71 #[.slice none 0 0, .string t] W fun e w' => ∃ g c N, e = .returned (.slice (some ⟨g, 0, none⟩) N c) ∧ LayL w w' v s ((enc t.size ++ sInts t, g, N, c) :: L) := by
  refine (f_puttext none [] 0 0 t W ⟨.inl rfl, by simp⟩ rfl (fun _ => rfl) (by omega)).mono ?_
  rintro e w' ⟨g, c, N, rfl, ho, hg⟩
  rw [List.nil_append] at ho
  exact ⟨g, c, N, rfl, h.add hg ho⟩
theorem lay_ver {w W : World} {v : Nat} {s : ByteArray} {L : List (List Int × Nat × Nat × Nat)} (h : LayL w W v s L) (hv : v < 18446744073709551616) :
    Calls Tryz.prog 72 #[.slice none 0 0, .int .u64 (v : Int)] W fun e w' => ∃ g c N, e = .returned (.slice (some ⟨g, 0, none⟩) N c) ∧ LayL w w' v s ((enc v, g, N, c) :: L) := by
  refine (f_putuint none [] 0 0 (v : Int) W ⟨.inl rfl, by simp⟩ rfl (fun _ => rfl) (by omega) (by omega)).mono ?_
  rintro e w' ⟨g, c, N, rfl, ho, hg⟩
  rw [List.nil_append, Int.toNat_natCast] at ho
  exact ⟨g, c, N, rfl, h.add hg ho⟩
theorem lay_join {w W : World} {k : ByteArray} {v : Nat} {s : ByteArray} {L : List (List Int × Nat × Nat × Nat)} {g1 N1 c1 g2 N2 c2 g3 N3 c3 : Nat} (h : LayL w W v s L) (m1 : (enc k.size ++ sInts k, g1, N1, c1) ∈ L) (m2 : (enc v, g2, N2, c2) ∈ L) (m3 : (enc s.size ++ sInts s, g3, N3, c3) ∈ L) (hk : k.size ≤ 140737488354000) (hv : v < 18446744073709551616) (hs : k.size + s.size ≤ 140737488354000) (t : TypeId) :
    Calls Tryz.prog 70 #[.slice (some ⟨W.heap.size, 0, none⟩) 3 3] (W.alloc (.cells #[.slice (some ⟨g1, 0, none⟩) N1 c1, .slice (some ⟨g2, 0, none⟩) N2 c2, .slice (some ⟨g3, 0, none⟩) N3 c3] t)) fun e w' => ∃ g c N, e = .returned (.slice (some ⟨g, 0, none⟩) N c) ∧ Own w' w.heap.size g N c (recL k (v, s)) ∧ w.grownBy w' none ∧ RgAt w' w.heap.size (.int .u64 (v : Int)) (.string s) := by
  have o1 := h.own _ m1
  have o2 := h.own _ m2
  have o3 := h.own _ m3
  have l1 := o1.len
  have l2 := o2.len
  have l3 := o3.len
  dsimp only at o1 o2 o3 l1 l2 l3
  have e1 := enc_len k.size (by omega)
  have e2 := enc_len v hv
  have e3 := enc_len s.size (by omega)
  have e2' := enc_len_pos v
  have hi1 := sInts_len k
  have hi3 := sInts_len s
  rw [List.length_append, hi1] at l1
  rw [List.length_append, hi3] at l3
  refine (g_join [⟨some ⟨g1, 0, none⟩, N1, c1, enc k.size ++ sInts k⟩, ⟨some ⟨g2, 0, none⟩, N2, c2, enc v⟩, ⟨some ⟨g3, 0, none⟩, N3, c3, enc s.size ++ sInts s⟩] 3 W t _ rfl rfl (by omega) ?_ (by simp [total]; omega) (by simp [total]; omega)).mono ?_
  · intro p hp
    simp only [List.mem_cons, List.mem_nil_iff, or_false] at hp
    rcases hp with rfl | rfl | rfl
    · exact ⟨o1.rd, o1.len, by simp⟩
    · exact ⟨o2.rd, o2.len, by simp⟩
    · exact ⟨o3.rd, o3.len, by simp⟩
  · rintro e w' ⟨g, c, N, rfl, ho', hg'⟩
    refine ⟨g, c, N, rfl, ?_, h.grown.trans hg', h.box.grown hg'⟩
    have := ho'.base h.grown.size
    simpa [joined, recL] using this
set_option maxHeartbeats 8000000 in
theorem k_lay (k : ByteArray) (v : Nat) (s : ByteArray) (w : World) (hk : k.size ≤ 64) (hv : v < 18446744073709551616) (hs : s.size ≤ 140737488353000) :
    Calls Tryz.prog 43 #[.agg #[.int .u64 (v : Int), .string s], .string k] w fun e w' => ∃ g c N, e = .returned (.slice (some ⟨g, 0, none⟩) N c) ∧ Own w' w.heap.size g N c (recL k (v, s)) ∧ w.grownBy w' none := by
  obtain ⟨W1, eW1⟩ : ∃ W1, W1 = w.alloc (.cells #[.int .u64 (v : Int), .string s] 90) := ⟨_, rfl⟩
  have hL0 : LayL w W1 v s [] := by
    rw [eW1]
    exact ⟨World.grownBy_alloc w _ none, RgAt.new w _ _, fun p hp => by cases hp⟩
  have HL : Hid (LayL w W1.drew v s []) := hL0.next (gb_drew (World.grownBy.refl _ _))
  have c0 := hL0.box.c0
  have c1 := hL0.box.c1
  have HK : Hid (k.size ≤ 140737488354000) := by show _ ≤ _; omega
  have HS : Hid (s.size ≤ 140737488354000) := by show _ ≤ _; omega
  have HKS : Hid (k.size + s.size ≤ 140737488354000) := by show _ ≤ _; omega
  have HV : Hid (v < 18446744073709551616) := hv
  clear hL0 hk hv hs
  go_enter Tryz.func43, Tryz.ntmps43
  go_upto_region 1 with fail
  rw [← eW1]
  clear eW1
  go_region_held3 (fun W => W.cell? ⟨w.heap.size, 0, none⟩ = some (.int .u64 (v : Int)) ∧ W.cell? ⟨w.heap.size, 1, none⟩ = some (.string s)) (go_keep) (first
    | (go_at_call 71; refine (lay_text HL.out _ (by first | exact HK.out | exact HS.out)).mono ?_; rintro e w1 ⟨g1, k1, N1, rfl, hl⟩; clear HL; have HL : Hid (LayL w w1 v s _) := hl; have c0' := hl.box.c0; have c1' := hl.box.c1; clear hl)
    | (go_at_call 72; refine (lay_ver HL.out HV.out).mono ?_; rintro e w1 ⟨g2, k2, N2, rfl, hl⟩; clear HL; have HL : Hid (LayL w w1 v s _) := hl; have c0' := hl.box.c0; have c1' := hl.box.c1; clear hl)
    | (go_at_call 70; refine (lay_join (k := k) HL.out (by simp) (by simp) (by simp) HK.out HV.out HKS.out _).mono ?_; rintro e w1 ⟨g4, k4, N4, rfl, ho4, hg4, hb4⟩; have c0' := hb4.c0; have c1' := hb4.c1; have HO4 : Hid (Own w1 w.heap.size g4 N4 k4 (recL k (v, s)) ∧ w.grownBy w1 none) := ⟨ho4, hg4⟩; clear ho4 hg4 hb4))
  all_goals go_wp2
  all_goals go_ret
  all_goals exact ⟨g4, k4, N4, rfl, HO4.out.1, HO4.out.2⟩
end Go.Proofs.YtgpgkpciajajcaaGreatDoor

/- Package kv: the map of its registers. -/
namespace Go.Proofs.YtgpgkpciajajcaaGreatDoor
open Go.RowKit Go.Maps
set_option linter.unusedVariables false
set_option maxRecDepth 20000

def regD0 (r : Reg) : DataW Unit := .agg [.lit (.int .u64 (r.1 : Int)), .lit (.string r.2.data.toList)]
def regL : List Value → Option Reg
  | [.int .u64 (.ofNat v), .string s] => some (v, s)
  | _ => none
def regE : Value → Option (DataW Unit × List MemPlace)
  | .agg cs => (regL cs.toList).map fun r => (regD0 r, [])
  | _ => none
def regV0 (r : Reg) : Value := .agg #[.int .u64 (r.1 : Int), .string r.2]
/-- A register that was never set. -/
def reg0 : Reg := (0, ⟨#[]⟩)
def regV (o : Option Reg) : Value := regV0 (o.getD reg0)
def regD (o : Option Reg) : DataW Unit := regD0 (o.getD reg0)
theorem regE_V (r : Reg) : regE (regV0 r) = some (regD0 r, []) := rfl
theorem regD0_inj {a b : Reg} (h : regD0 a = regD0 b) : a = b := by
  obtain ⟨a1, a2⟩ := a
  obtain ⟨b1, b2⟩ := b
  simp only [regD0, DataW.agg.injEq, List.cons.injEq, DataW.lit.injEq, Lit.int.injEq, Lit.string.injEq, true_and, and_true] at h
  have h1 : a1 = b1 := by omega
  rw [h1, ba_ext h.2]
theorem regL_inv {l : List Value} {r : Reg} (h : regL l = some r) : l = [.int .u64 (r.1 : Int), .string r.2] := by
  unfold regL at h
  split at h
  · cases h
    rfl
  · cases h
theorem reg_inv {v : Value} {y : DataW Unit × List MemPlace} (h : regE v = some y) : ∃ r, v = regV0 r ∧ y = (regD0 r, []) := by
  unfold regE at h
  split at h
  · rename_i cs
    obtain ⟨r, hr, rfl⟩ := Option.map_eq_some_iff.1 h
    refine ⟨r, ?_, rfl⟩
    have := regL_inv hr
    unfold regV0
    congr 1
    exact Array.toList_inj.1 this
  · cases h
theorem zero90 (w : World) : (zeroValue 90).run Tryz.prog w = .ok (regV0 reg0) w := by kernel_rfl
/-- The map in block mb: F tells the registers. -/
def RegIs (w : World) (mb n : Nat) (F : ByteArray → Option Reg) : Prop :=
  ∃ D : DataW Unit, w.ownsMap Tryz.prog 9 regE mb n D ∧ (∀ s : ByteArray, D.atKey (kn s) (regD none) = regD (F s)) ∧ (∀ kl, Maps.has D kl = true → ∃ s, kl = kn s ∧ (F s).isSome = true) ∧ ∀ s, (F s).isSome = true → Maps.has D (kn s) = true
theorem RegIs.kept {w w' : World} {row : Option Nat} {mb n : Nat} {F : ByteArray → Option Reg} (h : RegIs w mb n F) (hg : w.grownBy w' row) (h2 : some mb ≠ row) : RegIs w' mb n F := by
  obtain ⟨D, hm, hd, hh, hi⟩ := h
  exact ⟨D, hm.kept hg h2, hd, hh, hi⟩
theorem RegIs.stay {w w' : World} {mb n : Nat} {F : ByteArray → Option Reg} (h : RegIs w mb n F) (hb : w'.heap[mb]? = w.heap[mb]?) : RegIs w' mb n F := by
  obtain ⟨D, ⟨es, clock, h1, h2⟩, hd⟩ := h
  exact ⟨D, ⟨es, clock, hb.trans h1, h2⟩, hd⟩
theorem RegIs.made (w : World) : RegIs (w.alloc (.map #[] 0)) w.heap.size 0 (fun _ => none) :=
  ⟨.map [], World.ownsMap_made w _ _ _, fun _ => rfl, fun kl h => by simp [Maps.has] at h, fun s h => by simp at h⟩
theorem RegIs.lt {w : World} {mb n : Nat} {F : ByteArray → Option Reg} (h : RegIs w mb n F) : mb < w.heap.size := by
  obtain ⟨D, hm, _⟩ := h
  exact hm.lt
theorem RegIs.look {w : World} {mb n : Nat} {F : ByteArray → Option Reg} (h : RegIs w mb n F) (s : ByteArray) (hs : s.size ≤ 64) :
    (Instr.lookup 66 (.map (some mb)) (.string s) false).run Tryz.prog w = .ok (regV (F s)) w := by
  obtain ⟨D, hm, hd, _⟩ := h
  obtain ⟨v, ps, hrun, hv⟩ := hm.lookup law9 Tryz.underlying66 (zero90 w) (regE_V reg0) (key9 s hs)
  rw [show regD0 reg0 = regD none from rfl, hd s] at hv
  obtain ⟨r, rfl, hr⟩ := reg_inv hv
  simp only [Prod.mk.injEq] at hr
  have := regD0_inj (show regD0 ((F s).getD reg0) = regD0 r from hr.1)
  rw [hrun, ← this]
  rfl
theorem RegIs.put {w : World} {mb n : Nat} {F : ByteArray → Option Reg} (h : RegIs w mb n F) (s : ByteArray) (hs : s.size ≤ 64) (hn : n ≤ 4194304) (r : Reg) :
    ∃ w', (Instr.mapUpdate 66 (.map (some mb)) (.string s) (regV0 r)).run Tryz.prog w = .ok () w' ∧ RegIs w' mb (n + 1) (setR F s (some r)) ∧ w.grownBy w' (some mb) := by
  obtain ⟨D, hm, hd, hh, hi⟩ := h
  obtain ⟨w', hrun, hm', hg⟩ := hm.update law9 Tryz.underlying66 (by unfold maxLen; omega) (key9 s hs) (regE_V r)
  refine ⟨w', hrun, ⟨_, hm', fun x => ?_, fun kl hk => ?_, fun x hx => ?_⟩, hg⟩
  · by_cases e : x = s
    · subst e
      rw [atKey_put_same hm.isMap (kn_key x), setR_same]
      rfl
    · rw [atKey_put_other (kn_ne e), hd x, setR_other F _ e]
  · by_cases e : kl = kn s
    · exact ⟨s, e, by rw [setR_same]; rfl⟩
    · rw [has_put_other e] at hk
      obtain ⟨x, rfl, hx⟩ := hh kl hk
      exact ⟨x, rfl, by rw [setR_other F _ (fun e' => e (by rw [e']))]; exact hx⟩
  · by_cases e : x = s
    · subst e
      exact has_put_same hm.isMap (kn_key x) _
    · rw [has_put_other (kn_ne e)]
      rw [setR_other F _ e] at hx
      exact hi x hx
end Go.Proofs.YtgpgkpciajajcaaGreatDoor

/- Package kv: a record, read; the keys. -/
namespace Go.Proofs.YtgpgkpciajajcaaGreatDoor
open Go.RowKit Go.Maps
set_option linter.unusedVariables false
set_option maxRecDepth 20000

set_option maxHeartbeats 8000000 in
theorem k_read (k : ByteArray) (v : Nat) (s : ByteArray) (a : Option Addr) (L c : Nat) (w : World) (hr : Rd w a (recL k (v, s))) (hL : (recL k (v, s)).length = L) (hc : L ≤ c) (hok : RegOk k (v, s)) :
    Calls Tryz.prog 81 #[.slice a L c] w fun e w' => e = .returned (.tuple #[.string k, .agg #[.int .u64 (v : Int), .string s], .bool true]) ∧ w.grownBy w' none := by
  obtain ⟨W1, eW1⟩ : ∃ W1, W1 = w.alloc (.cells #[.int .u64 0, .string ⟨#[]⟩] 90) := ⟨_, rfl⟩
  have HG1 : Hid (w.grownBy W1 none) := by show w.grownBy W1 none; rw [eW1]; exact World.grownBy_alloc w _ none
  have HB : Hid (RgAt W1 w.heap.size (.int .u64 0) (.string ⟨#[]⟩)) := by show RgAt _ _ _ _; rw [eW1]; exact RgAt.new w _ _
  obtain ⟨P1, e1⟩ : ∃ P : Int, P = (((enc k.size).length + k.size : Nat) : Int) := ⟨_, rfl⟩
  obtain ⟨P2, e2⟩ : ∃ P : Int, P = (((enc k.size).length + k.size + (enc v).length : Nat) : Int) := ⟨_, rfl⟩
  have hk := hok.key
  have hv := hok.ver
  have hs := hok.size
  dsimp only at hv hs
  have l1 := enc_len k.size (by omega)
  have l2 := enc_len v (by omega)
  have l3 := enc_len s.size (by omega)
  have hL2 := recL_len k (v, s)
  dsimp only at hL2
  have HZ : (L : Int) ≤ 140737488355000 := by omega
  have HT1 : Hid (∀ w1, w.grownBy w1 none → Calls Tryz.prog 122 #[.slice a L c, .int .i64 0] w1 fun e w' => e = .returned (.tuple #[.string k, .int .i64 P1, .int .i64 0]) ∧ w1.grownBy w' none) := fun w1 hg =>
    f_text a (recL k (v, s)) L c 0 k P1 0 w1 (hr.grown hg (by simp)) hL hc HZ (by rw [e1]; exact rec_key k (v, s) hok)
  have HT2 : Hid (∀ w1, w.grownBy w1 none → Calls Tryz.prog 123 #[.slice a L c, .int .i64 P1] w1 fun e w' => e = .returned (.tuple #[.int .u64 (v : Int), .int .i64 P2, .int .i64 0]) ∧ w1.grownBy w' none) := fun w1 hg =>
    f_uint a (recL k (v, s)) L c P1 (v : Int) P2 0 w1 (hr.grown hg (by simp)) hL hc HZ (by rw [e2]; exact rec_ver k (v, s) hok P1 e1)
  have HT3 : Hid (∀ w1, w.grownBy w1 none → Calls Tryz.prog 122 #[.slice a L c, .int .i64 P2] w1 fun e w' => e = .returned (.tuple #[.string s, .int .i64 (L : Int), .int .i64 0]) ∧ w1.grownBy w' none) := fun w1 hg =>
    f_text a (recL k (v, s)) L c P2 s (L : Int) 0 w1 (hr.grown hg (by simp)) hL hc HZ (by rw [← hL]; exact rec_data k (v, s) hok P2 e2)
  have HK : Hid (∀ w1, Calls Tryz.prog 69 #[.string k] w1 fun e w' => e = .returned (.bool true) ∧ w1 = w') := fun w1 => by
    have := k_isKey k (by omega) w1
    rw [kB_true hk] at this
    exact this
  have q1 : ((v : Int) == 0) = false := by simp; omega
  clear hr hL hok hk hv hs l1 l2 l3 hL2 e1 e2
  go_enter Tryz.func81, Tryz.ntmps81
  go_upto_region 1 with fail
  rw [← eW1]
  clear eW1
  go_wp2_with fail
  refine (HT1.out _ HG1.out).mono ?_
  rintro e w1 ⟨rfl, hg⟩
  have HG2 : Hid (w.grownBy w1 none) := HG1.out.trans hg
  have HB2 : Hid (RgAt w1 w.heap.size (.int .u64 0) (.string ⟨#[]⟩)) := HB.out.grown hg
  clear hg HT1 HG1 HB
  go_wp2_with fail
  refine (HK.out _).mono ?_
  rintro e w2 ⟨rfl, rfl⟩
  go_wp2_with fail
  refine (HT2.out _ HG2.out).mono ?_
  rintro e w2 ⟨rfl, hg⟩
  have HG3 : Hid (w.grownBy w2 none) := HG2.out.trans hg
  have HB3 : Hid (RgAt w2 w.heap.size (.int .u64 0) (.string ⟨#[]⟩)) := HB2.out.grown hg
  clear hg HT2 HG2 HB2
  go_wp2_with fail
  refine (HT3.out _ HG3.out).mono ?_
  rintro e w3 ⟨rfl, hg⟩
  have HG4 : Hid (w.grownBy w3 none) := HG3.out.trans hg
  have HB4 : Hid (RgAt w3 w.heap.size (.int .u64 0) (.string ⟨#[]⟩)) := HB3.out.grown hg
  have c0 := HB4.out.c0
  have c1 := HB4.out.c1
  have g0 := HB4.out.f0
  have g1 := HB4.out.f1
  clear hg HT3 HG3 HB3
  go_wp2
  exact bodyPost_ret (results_mid Tryz.results81 _ _ _ _ _ rfl (HB4.out.set _ _).var) rfl ⟨rfl, gb_pair HG4.out (Nat.le_refl _) _ _⟩
/-- A store's struct. -/
def TriAt (w : World) (g : Nat) (x y z : Value) : Prop := w.heap[g]? = some (.cells #[x, y, z] 68 (0, 0))
section
variable {w w' : World} {g : Nat} {x y z : Value}
theorem TriAt.c0 (h : TriAt w g x y z) : w.cell? ⟨g, 0, none⟩ = some x := by rw [cell_of_row w g 0 _ _ _ h]; rfl
theorem TriAt.c1 (h : TriAt w g x y z) : w.cell? ⟨g, 1, none⟩ = some y := by rw [cell_of_row w g 1 _ _ _ h]; rfl
theorem TriAt.c2 (h : TriAt w g x y z) : w.cell? ⟨g, 2, none⟩ = some z := by rw [cell_of_row w g 2 _ _ _ h]; rfl
theorem TriAt.f (h : TriAt w g x y z) (i : Nat) : w.frozen? ⟨g, i, none⟩ = false := by unfold TriAt at h; simp [World.frozen?, h]
theorem TriAt.lt (h : TriAt w g x y z) : g < w.heap.size := (Array.getElem?_eq_some_iff.1 h).1
theorem TriAt.grown (h : TriAt w g x y z) (hg : w.grownBy w' none) : TriAt w' g x y z := (hg.block g h.lt (by simp)).trans h
theorem TriAt.stay (h : TriAt w g x y z) (hb : w'.heap[g]? = w.heap[g]?) : TriAt w' g x y z := hb.trans h
theorem TriAt.new (w : World) (x y z : Value) : TriAt (w.alloc (.cells #[x, y, z] 68)) w.heap.size x y z := heap_alloc_new w _
theorem TriAt.set0 (h : TriAt w g x y z) (x' : Value) : TriAt (w.setCell ⟨g, 0, none⟩ x') g x' y z := by
  unfold TriAt at *
  rw [setCell_eq_setRow w g 0 _ 68 (0, 0) _ h, setRow_heap w g _ _ 68 _ h]
  rfl
theorem TriAt.set2 (h : TriAt w g x y z) (z' : Value) : TriAt (w.setCell ⟨g, 2, none⟩ z') g x y z' := by
  unfold TriAt at *
  rw [setCell_eq_setRow w g 2 _ 68 (0, 0) _ h, setRow_heap w g _ _ 68 _ h]
  rfl
end
/-- The keys of registers that begin so. -/
def KeysOf (F : ByteArray → Option Reg) (p : ByteArray) (l : List ByteArray) : Prop := l.Nodup ∧ (l.Pairwise fun x y => x.data.toList ≤ y.data.toList) ∧ ∀ s, s ∈ l ↔ (F s).isSome = true ∧ Lib.hasPrefix s.data.toList p.data.toList = true
theorem reg_invV {v : Value} {y : DataW Unit × List MemPlace} (h : regE v = some y) : ∃ r, v = regV0 r := by
  obtain ⟨r, h1, _⟩ := reg_inv h
  exact ⟨r, h1⟩
set_option maxHeartbeats 4000000 in
theorem k_keys (sb mb n : Nat) (x y : Value) (F : ByteArray → Option Reg) (p : ByteArray) (w : World) (hs : TriAt w sb x y (.map (some mb))) (hmap : RegIs w mb n F) (hn : n ≤ 4194304) :
    Calls Tryz.prog 68 #[.pointer (some ⟨sb, 0, none⟩), .string p] w fun e w' => ∃ a c l, e = .returned (.slice a l.length c) ∧ SOwn strE 9 w' w.heap.size (.slice a l.length c) l.length l ∧ w.grownBy w' none ∧ KeysOf F p l ∧ l.length ≤ n := by
  have c2 := hs.c2
  obtain ⟨D, hm, hda, hdh, hdi⟩ := id hmap
  have HM : Hid (w.ownsMap Tryz.prog 9 regE mb n D) := hm
  have HMB : Hid (mb < w.heap.size) := hmap.lt
  have HSZ : Hid (Maps.size D ≤ n) := hm.size_le
  have HDV : Hid (∀ s, Maps.has D (kn s) = true ↔ (F s).isSome = true) := by
    intro s
    constructor
    · intro hs
      obtain ⟨t, e, ht⟩ := hdh _ hs
      obtain rfl := kn_inj e
      exact ht
    · exact hdi s
  clear hs hmap hm hda hdh hdi
  go_enter Tryz.func68, Tryz.ntmps68
  go_wp2_with (first
    | (at_range; refine wpList_range_own _ rfl _ 66 rfl 9 90 law9 Tryz.underlying66 _ mb n _ rfl HM.out ?_; intro w0 hrg0 hg0 hs0)
    | go_in)
  go_frame
  have HRG0 : Hid (w0.ranges Tryz.prog 9 regE mb w.heap.size n D (Maps.has D) (Maps.size D)) := hrg0
  have HG0 : Hid (w.grownBy w0 none) := hg0
  have HS0 : Hid (w0.heap.size = w.heap.size + 1) := hs0
  clear hrg0 hg0 hs0
  go_loopw [5] (fun v wr' => ∃ (left : Lit → Bool) (cnt : Nat) (l : List ByteArray), wr'.ranges Tryz.prog 9 regE mb w.heap.size n D left cnt ∧ Seen D left cnt p l ∧ SOwn strE 9 wr' (w.heap.size + 1) v l.length l ∧ w.grownBy wr' none)
    (fun _ wr' => wr'.rangeLeft mb w.heap.size)
  case atStart =>
    refine ⟨_, _, [], HRG0.out, ⟨fun s => ?_, List.nodup_nil, by simp⟩, SOwn.nil 9 _ _, HG0.out⟩
    constructor
    · intro hs; cases hs
    · rintro ⟨h1, h2, _⟩; rw [h1] at h2; cases h2
  case round =>
    obtain ⟨left, cnt, l, hrg, hse, hso, hgw⟩ := hrel
    obtain ⟨L, eL⟩ : ∃ L, L = l.length := ⟨_, rfl⟩
    rw [← eL] at hso
    obtain ⟨a5, k5, rfl⟩ := sown_sliceT hso
    have EL : Hid (L = l.length) := eL
    have HRG : Hid (wr.ranges Tryz.prog 9 regE mb w.heap.size n D left cnt) := hrg
    have HSE : Hid (Seen D left cnt p l) := hse
    have HSO : Hid (SOwn strE 9 wr (w.heap.size + 1) (.slice a5 L k5) L l) := hso
    have HGW : Hid (w.grownBy wr none) := hgw
    have hLn : L + cnt ≤ 4194304 := by have h1 := hse.count; have h2 := HSZ.out; omega
    have HLW : Hid (w.heap.size + 1 ≤ wr.heap.size) := by have h1 := hrg.lt; exact h1
    clear hrg hse hso hgw HRG0 HG0 eL
    go_wp2_with (first
      | (at_next; refine wpList_next_ranges _ rfl _ rfl 9 law9 regE Value.string regV0 (fun key kl hkey => by obtain ⟨x, hx, _⟩ := str_inv hkey; exact ⟨x, hx⟩) (fun v y hv => reg_invV hv) mb w.heap.size n _ _ _ rfl HRG.out ?_ ?_)
      | go_in)
    · intro _ hl0
      go_wp2_with fail
      refine (d_sortAny (w.heap.size + 1) L _ l wr HSO.out (by omega)).mono ?_
      rintro e w4 ⟨rfl, ho4, hg4⟩
      have HO4 : Hid (SOwn strE 9 w4 (w.heap.size + 1) (.slice a5 L k5) L (srt l)) := ho4
      have HG4 : Hid (w.grownBy w4 none) := gb_trans HGW.out hg4 (fun k hk => .inl (by have := (SOwn.block HSO.out k hk).1; omega))
      clear ho4 hg4
      go_wp2
      go_ret
      have hsl := srt_len l
      refine ⟨a5, k5, srt l, by rw [hsl, ← EL.out]; rfl, by rw [hsl, ← EL.out]; exact SOwn.base HO4.out (Nat.le_succ _), HG4.out, ⟨srt_nodup HSE.out.nodup, srt_pair l, fun s => (srt_mem l s).trans ?_⟩, by have h1 := HSE.out.count; have h2 := HSZ.out; omega⟩
      rw [HSE.out.mem s, HDV.out s]
      simp [hl0]
    · intro x ov os kl yd yp w1 cnt1 hkey hlk hv hat hrg1 hlt hg1 hs1 hen
      obtain ⟨x', ex, rfl, _⟩ := str_inv hkey
      cases ex
      have hhas : Maps.has D (kn x) = true := has_true_of_atKey hat
      have HSE1 : Hid (Seen D (fun z => left z && !z.sameKey (kn x)) cnt1 p (if Lib.hasPrefix x.data.toList p.data.toList = true then l ++ [x] else l)) := HSE.out.step hhas hlk hlt
      have HRG1 : Hid (w1.ranges Tryz.prog 9 regE mb w.heap.size n D (fun z => left z && !z.sameKey (kn x)) cnt1) := hrg1
      have HG1 : Hid (w.grownBy w1 none) := gb_trans HGW.out hg1 (fun k hk => .inl (by cases hk; exact Nat.le_refl _))
      have HSO1 : Hid (SOwn strE 9 w1 (w.heap.size + 1) (.slice a5 L k5) L l) := SOwn.kept HSO.out hg1 (.inr (fun e => by have := (SOwn.block HSO.out _ e).1; omega))
      have HLT1 : Hid (cnt1 < cnt) := hlt
      have HLW1 : Hid (w.heap.size + 1 ≤ w1.heap.size) := by show _ ≤ _; rw [hs1]; exact HLW.out
      have hen' : (Instr.entry (.pointer (some ⟨w.heap.size, 0, none⟩))).run Tryz.prog w1 = .ok (.tuple #[.string x, regV0 (ov, os)]) w1 := hen
      clear hkey hlk hv hat hrg1 hlt hg1 hs1 hen hhas HSE HSO HGW HLW
      go_wp2_with fail
      refine (d_prefix x p w1).mono ?_
      rintro e w2 ⟨rfl, rfl⟩
      by_cases hp : Lib.hasPrefix x.data.toList p.data.toList = true
      · rw [hp]
        rw [if_pos hp] at HSE1
        go_wp2_with (at_builtin; refine wpList_append_s strET rfl (.tmp 19) (.tmp 21) rfl (w.heap.size + 1) (.slice a5 L k5) L l rfl (SOwn.kept HSO1.out (World.grownBy_alloc w1 _ none) (by cases a5 <;> simp [Value.ownBlock])) (some ⟨w1.heap.size, 0, none⟩) [x] 1 1 rfl rfl (slit w1 [x]) (by simp) (by omega) (by unfold maxLen; omega) (Nat.le_of_lt (by rw [show ((w1.alloc (.cells #[.string x] 9)).heap.size) = w1.heap.size + 1 from Array.size_push _]; have := HLW1.out; omega)) ?_; intro v3 w3 ho3 hg3 hn3)
        have HO3 : Hid (SOwn strE 9 w3 (w.heap.size + 1) v3 (L + 1) (l ++ [x])) := ho3
        have HG13 : Hid (w1.grownBy w3 (Value.ownBlock (.slice a5 L k5))) := (gb_any (World.grownBy_alloc w1 _ none) _).trans hg3
        clear ho3 hg3 hn3
        have hrg3 := HRG1.out.kept HG13.out (row_ne_low HSO1.out (Nat.lt_succ_of_lt HMB.out)) (row_ne_low HSO1.out (Nat.lt_succ_self _))
        have hg3 : w.grownBy w3 none := gb_trans HG1.out HG13.out (fun k hk => .inl (by have := (SOwn.block HSO1.out k hk).1; omega))
        refine ⟨⟨_, cnt1, l ++ [x], hrg3, HSE1.out, ?_, hg3⟩, ?_⟩
        · rw [List.length_append, ← EL.out]
          exact HO3.out
        · rw [HRG.out.left_eq, hrg3.left_eq]
          exact HLT1.out
      · have hpf : Lib.hasPrefix x.data.toList p.data.toList = false := by simpa using hp
        rw [hpf]
        rw [if_neg hp] at HSE1
        go_wp2
        refine ⟨⟨_, cnt1, l, HRG1.out, HSE1.out, ?_, HG1.out⟩, ?_⟩
        · rw [← EL.out]
          exact HSO1.out
        · rw [HRG.out.left_eq, HRG1.out.left_eq]
          exact HLT1.out
end Go.Proofs.YtgpgkpciajajcaaGreatDoor

