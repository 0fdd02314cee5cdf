/- Several texts in one: Ij, Il, Im. -/
import Derived.Test.YtpabbmiibehfjaaGreatDoorGt
import Derived.Deep.Slices
import Derived.Deep.Strs
import Derived.Test.YtpabbmiibehfjaaGreatDoorCards
import Derived.Test.YtpabbmiibehfjaaGreatDoorTie
import Derived.Shelf.Vars
import Derived.Deep.DeepHandedRow
import Derived.Lib.LaidTab
import Derived.Test.YtpabbmiibehfjaaGreatDoorGa
/- Samples that come in; what a run of them leaves. -/
namespace Go.Proofs.YtpabbmiibehfjaaGreatDoor
open Go.RowKit Go.Maps
set_option linter.unusedVariables false
set_option maxRecDepth 20000

abbrev Smp := List Lab × Int × Int
def smpE : Elem (Sv × Int × Int) where
  cells q := [svV q.1, .int .i64 q.2.1, .int .u64 q.2.2]
  size := 3
  pos := by decide
  len _ := rfl
  one q v h := by
    simp only [List.mem_cons, List.mem_nil_iff, or_false] at h
    rcases h with rfl | rfl | rfl <;> rfl
/-- Samples that can be read. -/
structure SmpRd (w : World) (a : Option Addr) (raw : List (Sv × Int × Int)) (Q : List Smp) : Prop where
  rd : SRd smpE w a raw
  len : raw.length = Q.length
  smp : ∀ (i : Nat) (r : Sv × Int × Int) (s : Smp), raw[i]? = some r → Q[i]? = some s → r.1.2.1 = s.1.length ∧ SRd labE w r.1.1 s.1 ∧ (r.1.1 = none → r.1.2.2 = 0) ∧ s.1.length ≤ 4398046511104 ∧ r.2 = s.2
theorem SmpRd.grown {w w' : World} {a : Option Addr} {raw : List (Sv × Int × Int)} {Q : List Smp} (h : SmpRd w a raw Q) (hg : w.grownBy w' none) : SmpRd w' a raw Q :=
  ⟨h.rd.grown hg (by simp), h.len, fun i r s hr hs => by
    obtain ⟨h1, h2, h3⟩ := h.smp i r s hr hs
    exact ⟨h1, h2.grown hg (by simp), h3⟩⟩
theorem smp_cells {w : World} {a : Option Addr} {raw : List (Sv × Int × Int)} {Q : List Smp} (h : SmpRd w a raw Q) {k : Nat} {ls : List Lab} {T V : Int} (hs : Q[k]? = some (ls, T, V)) :
    ∃ b off la lc, a = some ⟨b, off, none⟩ ∧ w.cell? ⟨b, off + k * 3, none⟩ = some (.slice la ls.length lc) ∧ w.cell? ⟨b, off + k * 3 + 1, none⟩ = some (.int .i64 T) ∧ w.cell? ⟨b, off + k * 3 + 2, none⟩ = some (.int .u64 V) ∧ SRd labE w la ls ∧ (la = none → lc = 0) ∧ ls.length ≤ 4398046511104 := by
  have hk : k < raw.length := by rw [h.len]; exact (List.getElem?_eq_some_iff.1 hs).1
  obtain ⟨⟨⟨la, ln, lc⟩, T', V'⟩, hr⟩ : ∃ r, raw[k]? = some r := ⟨_, List.getElem?_eq_getElem hk⟩
  obtain ⟨b, off, rfl, hc⟩ := h.rd.at (by omega)
  obtain ⟨h1, h2, h3, h4, h5⟩ := h.smp k _ _ hr hs
  simp only at h1 h2 h3 h4 h5
  cases h5
  subst h1
  exact ⟨b, off, la, lc, rfl, hc k _ 0 _ hr rfl, by rw [Nat.add_assoc]; exact hc k _ 1 _ hr rfl, by rw [Nat.add_assoc]; exact hc k _ 2 _ hr rfl, h2, h3, h4⟩
theorem Low_any (x : Int) (w : World) : Calls Tryz.prog 21 #[.int .i64 x] w fun e w' => ∃ r, e = .returned (.int .i64 r) ∧ 0 ≤ r ∧ r ≤ 9223372036854775807 ∧ w = w' := by
  have h := and_low x
  have H : Hid (0 ≤ bits .and .i64 x 9223372036854775807 ∧ bits .and .i64 x 9223372036854775807 ≤ 9223372036854775807) := h
  clear h
  go_enter Tryz.func21, Tryz.ntmps21
  go_wp2
  go_ret
  exact ⟨_, rfl, H.out.1, H.out.2, rfl⟩
/-- The series that a run of samples leaves. -/
def runS (lim : Nat) (Q : List Smp) : List Ser := Q.foldl (fun S q => addR lim S q.1 q.2.1 q.2.2) []
theorem runS_next {lim : Nat} {Q : List Smp} {k : Nat} {ls : List Lab} {T V : Int} (h : Q[k]? = some (ls, T, V)) : runS lim (Q.take (k + 1)) = addR lim (runS lim (Q.take k)) ls T V := by
  unfold runS
  rw [List.take_add_one, h, List.foldl_append]
  rfl
theorem fate_five {lim : Nat} {S : List Ser} {ls : List Lab} {T V : Int} (h : fateR lim S ls T V = 5) : (addR lim S ls T V).length = lim := by
  have hS : S.length = lim := by
    unfold fateR at h
    split at h
    · split at h
      · split at h
        · assumption
        · omega
      · split at h
        · omega
        · split at h
          · omega
          · split at h <;> omega
    · omega
  unfold addR
  rw [h, if_neg (by omega)]
  exact hS
theorem good_high {S : List Ser} (h : Good S) : keepS (highT 1099511627777) S = [] := by
  unfold keepS
  rw [List.filterMap_eq_nil_iff]
  intro s hs
  have hr := h.rise s hs
  have hf : s.2.filter (highT 1099511627777) = [] := by
    rw [List.filter_eq_nil_iff]
    intro p hp
    have := hr.hi p hp
    simp [highT]
    omega
  rw [hf]
  rfl
theorem fate_new {lim : Nat} : fateR lim [] lNew 1 0 = if lim = 0 then 5 else 1 := by
  unfold fateR
  rw [if_pos ⟨chk_new, by decide, by decide⟩]
  show (if 0 = lim then 5 else 1) = _
  by_cases h : lim = 0
  · rw [if_pos h.symm, if_pos h]
  · rw [if_neg (fun e => h e.symm), if_neg h]
theorem limR_small {x : Int} {n : Nat} (h : x = (n : Int)) (hn : n ≤ 1024) : limR x = n := by
  unfold limR
  omega
end Go.Proofs.YtpabbmiibehfjaaGreatDoor

/- Slices of samples that come in. -/
namespace Go.Proofs.YtpabbmiibehfjaaGreatDoor
open Go.ChangeShapes Go.WideShapes Go.ChangeAt Go.RowKit
set_option linter.unusedVariables false
set_option maxRecDepth 20000

theorem weights_all {H : Type} {P : Program} {e : TypeId} : ∀ {l : List (DataW H)} {d : DataW H}, d ∈ l → ∀ n ∈ d.weights P e, n ∈ DataW.weightsAll P e l
  | x :: r, d, h, n, hn => by
    simp only [DataW.weightsAll, List.mem_append]
    rcases List.mem_cons.1 h with rfl | h
    · exact Or.inl hn
    · exact Or.inr (weights_all h n hn)
theorem srd_range {α : Type} (E : Elem α) {w : World} {b off : Nat} (q : Nat → α) (n : Nat) (h : ∀ i, i < n → ∀ j v, (E.cells (q i))[j]? = some v → w.cell? ⟨b, off + (i * E.size + j), none⟩ = some v) :
    SRd E w (some ⟨b, off, none⟩) ((List.range n).map q) := by
  right
  refine ⟨b, off, rfl, fun p v hp => ?_⟩
  have hlen := (List.getElem?_eq_some_iff.1 hp).1
  rw [E.flat_len, List.length_map, List.length_range] at hlen
  have hpos := E.pos
  have hi : p / E.size < n := (Nat.div_lt_iff_lt_mul hpos).2 hlen
  have hj : p % E.size < E.size := Nat.mod_lt _ hpos
  have hg := E.flat_get ((List.range n).map q) (p / E.size) (q (p / E.size)) (p % E.size) (by simp [hi]) hj
  have hsum : p / E.size * E.size + p % E.size = p := by rw [Nat.mul_comm]; exact Nat.div_add_mod p E.size
  rw [hsum, hp] at hg
  have := h _ hi _ v hg.symm
  rwa [hsum] at this
theorem open_cells {α : Type} [Inhabited α] (E : Elem α) {P : Program} {t e : TypeId} {bytes : Nat} {S : α → Prop} {H : Type} {enc : TypeId × Value → H} {W : World}
    (ht : P.underlying t = some (.slice e)) (hc : P.cellsOf e = E.size) (hby : P.bytesOf e = bytes)
    (step : ∀ fuel cs x, DataW.trod enc P W 0 (fun _ => true) true fuel e cs = some x → ∃ q : α, cs = E.cells q ∧ ((∀ n ∈ x.1.weights P e, n ≤ reachBytes) → S q))
    {fuel : Nat} {cs : List Value} {x : DataW H × List MemPlace} (hf : DataW.trod enc P W 0 (fun _ => true) true fuel t cs = some x) :
    ∃ (a0 : Option Addr) (len0 cap0 : Nat), cs = [.slice a0 len0 cap0] ∧ ((∀ n ∈ x.1.weights P t, n ≤ reachBytes) → ∃ ls : List α, ls.length = len0 ∧ SRd E W a0 ls ∧ (a0 = none → cap0 = 0) ∧ len0 * bytes ≤ reachBytes ∧ len0 ≤ cap0 ∧ ∀ q ∈ ls, S q) := by
  rcases Go.Deep.open_slice ht hf with ⟨rfl, _⟩ | ⟨y, len0, cap0, m, k, D, Pl, rfl, _, hl, hm, hmm, rfl, hall⟩
  · exact ⟨none, 0, 0, rfl, fun _ => ⟨[], rfl, .inl rfl, fun _ => rfl, by simp, Nat.le_refl _, by simp⟩⟩
  · refine ⟨some y, len0, cap0, rfl, fun hw => ?_⟩
    simp only [if_true] at hmm
    have hreach := hw ((((List.range len0).map D).length + ((List.range (m - len0)).map fun j => D (len0 + j)).length) * P.bytesOf e) (by simp [DataW.weights, ht])
    rw [hby] at hreach
    simp only [List.length_map, List.length_range] at hreach
    have each : ∀ i, i < len0 → ∃ q : α, W.cells? 0 (y.add (i * E.size)) E.size = some (E.cells q) ∧ S q := by
      intro i hi
      obtain ⟨cs', h1, h2⟩ := hall i (by omega)
      obtain ⟨q, e1, hS⟩ := step _ _ _ h2
      rw [hc] at h1
      refine ⟨q, by rw [h1, e1], hS fun n hn => hw n ?_⟩
      simp only [DataW.weights, ht]
      refine List.mem_cons_of_mem _ (List.mem_append_left _ (weights_all (d := D i) ?_ n hn))
      exact List.mem_map.2 ⟨i, List.mem_range.2 hi, rfl⟩
    obtain ⟨q, hq⟩ := Go.Deep.choose_lt each
    refine ⟨(List.range len0).map q, by simp, ?_, by simp, ?_, hl, ?_⟩
    · by_cases h0 : len0 = 0
      · left; simp [h0]
      · obtain ⟨b, off, spot⟩ := y
        have hspot : spot = none := by
          obtain ⟨_, _, hcell⟩ := World.cells?_some (hq 0 (by omega)).1
          have := hcell 0 (by exact E.pos)
          rw [List.getElem?_eq_getElem (by rw [E.len]; exact E.pos)] at this
          simpa [Addr.add] using World.cell?_spot this
        subst hspot
        refine srd_range E q len0 fun i hi j v hv => ?_
        obtain ⟨_, hlen, hcell⟩ := World.cells?_some (hq i hi).1
        have hj := (List.getElem?_eq_some_iff.1 hv).1
        rw [E.len] at hj
        have := hcell j hj
        rw [Go.Deep.add_add, add_plain] at this
        rw [this, hv]
    · exact Nat.le_trans (Nat.mul_le_mul_right _ (by omega)) hreach
    · intro z hz
      obtain ⟨i, hi, rfl⟩ := List.mem_map.1 hz
      exact (hq i (List.mem_range.1 hi)).2
theorem cells31 : Tryz.prog.cellsOf 31 = 3 := by kernel_rfl
theorem cells28 : Tryz.prog.cellsOf 28 = 1 := by kernel_rfl
theorem cells29 : Tryz.prog.cellsOf 29 = 1 := by kernel_rfl
theorem cells2 : Tryz.prog.cellsOf 2 = 1 := by kernel_rfl
theorem bytes62 : Tryz.prog.bytesOf 62 = 32 := by kernel_rfl
theorem bytes31 : Tryz.prog.bytesOf 31 = 40 := by kernel_rfl
/-- What a sample's labels are. -/
def SmpS (W : World) (q : Sv × Int × Int) : Prop := ∃ ls : List Lab, q.1.2.1 = ls.length ∧ SRd labE W q.1.1 ls ∧ (q.1.1 = none → q.1.2.2 = 0) ∧ ls.length ≤ 4398046511104
section
variable {H : Type} {enc : TypeId × Value → H} {W : World}
theorem step62 (fuel : Nat) (cs : List Value) (x : DataW H × List MemPlace) (h : DataW.trod enc Tryz.prog W 0 (fun _ => true) true fuel 62 cs = some x) : ∃ q : Lab, cs = labE.cells q ∧ ((∀ n ∈ x.1.weights Tryz.prog 62, n ≤ reachBytes) → True) := by
  obtain ⟨y0, y1, n, rfl, hl, g0, g1⟩ := trod_struct2 Tryz.underlying62 h
  rw [cells62] at hl
  match cs, hl with
  | [c0, c1], _ =>
    simp only [cells9, List.drop, List.take] at g0 g1
    obtain ⟨s0, e0, rfl, _⟩ := DataW.trod_string Tryz.underlying9 g0
    obtain ⟨s1, e1, rfl, _⟩ := DataW.trod_string Tryz.underlying9 g1
    simp only [List.cons.injEq, and_true] at e0 e1
    subst e0; subst e1
    exact ⟨(s0, s1), rfl, fun _ => trivial⟩
theorem step31 (fuel : Nat) (cs : List Value) (x : DataW H × List MemPlace) (h : DataW.trod enc Tryz.prog W 0 (fun _ => true) true fuel 31 cs = some x) : ∃ q : Sv × Int × Int, cs = smpE.cells q ∧ ((∀ n ∈ x.1.weights Tryz.prog 31, n ≤ reachBytes) → SmpS W q) := by
  obtain ⟨y0, y1, y2, n, rfl, hl, g0, g1, g2⟩ := Go.Deep.trod_struct3 Tryz.underlying31 h
  rw [cells31] at hl
  match cs, hl with
  | [c0, c1, c2], _ =>
    simp only [cells28, cells2, cells29, List.drop, List.take] at g0 g1 g2
    obtain ⟨s1, e1, rfl, _⟩ := DataW.trod_int Tryz.underlying2 g1
    obtain ⟨s2, e2, rfl, _⟩ := DataW.trod_int Tryz.underlying29 g2
    obtain ⟨a0, len0, cap0, e0, hls⟩ := open_cells labE (S := fun _ => True) Tryz.underlying28 cells62 bytes62 step62 g0
    simp only [List.cons.injEq, and_true] at e0 e1 e2
    subst e0; subst e1; subst e2
    refine ⟨((a0, len0, cap0), s1, s2), rfl, fun hw => ?_⟩
    obtain ⟨ls, k1, k2, k3, k4, k5, k6⟩ := hls (fun n hn => hw n (by
      simp only [DataW.weights, Tryz.underlying31]
      simp [DataW.weightsEach, hn]))
    exact ⟨ls, k1.symm, k2, k3, by simp only [reachBytes] at k4; omega⟩
theorem smps_of : ∀ (ls : List (Sv × Int × Int)), (∀ q ∈ ls, SmpS W q) → ∃ Q : List Smp, ls.length = Q.length ∧ ∀ (i : Nat) (r : Sv × Int × Int) (s : Smp), ls[i]? = some r → Q[i]? = some s → r.1.2.1 = s.1.length ∧ SRd labE W r.1.1 s.1 ∧ (r.1.1 = none → r.1.2.2 = 0) ∧ s.1.length ≤ 4398046511104 ∧ r.2 = s.2
  | [], _ => ⟨[], rfl, fun i t r h => by simp at h⟩
  | q :: ls, h => by
    obtain ⟨Q, h1, h2⟩ := smps_of ls (fun q hq => h q (List.mem_cons_of_mem _ hq))
    obtain ⟨l, hr⟩ := h q (List.mem_cons_self ..)
    refine ⟨(l, q.2) :: Q, by simp [h1], fun i t r' ht hr' => ?_⟩
    cases i with
    | zero =>
      simp at ht hr'
      subst ht hr'
      exact ⟨hr.1, hr.2.1, hr.2.2.1, hr.2.2.2, rfl⟩
    | succ i => exact h2 i t r' (by simpa using ht) (by simpa using hr')
theorem open_smps {a0 : Option Addr} {len0 cap0 : Nat} {d0 : DataW H} {p0 : List MemPlace} {ts : List TypeId} {ds : List (DataW H)} (h0 : DataW.Trod enc Tryz.prog W 0 (fun _ => true) true 42 (.slice a0 len0 cap0) d0 p0) (hsz : (DataW.weightsEach Tryz.prog ts ds).all (· ≤ reachBytes) = true) {j : Nat} (ht : ts[j]? = some 42) (hd : ds[j]? = some d0) :
    ∃ raw Q, Q.length = len0 ∧ SmpRd W a0 raw Q ∧ (a0 = none → cap0 = 0) ∧ Q.length ≤ 3518437208882 := by
  obtain ⟨fuel, hf⟩ := h0
  obtain ⟨a, len, cap, e, hls⟩ := open_cells smpE (S := SmpS W) Tryz.underlying42 cells31 bytes31 step31 hf
  simp [Value.cells] at e
  obtain ⟨rfl, rfl, rfl⟩ := e
  obtain ⟨ls, k1, k2, k3, k4, k5, k6⟩ := hls (fun n hn => by
    simpa using List.all_eq_true.1 hsz _ (DataW.weights_mem_each ht hd n hn))
  obtain ⟨Q, q1, q2⟩ := smps_of ls k6
  exact ⟨ls, Q, by omega, ⟨k2, q1, q2⟩, k3, by simp only [reachBytes] at k4; omega⟩
end
end Go.Proofs.YtpabbmiibehfjaaGreatDoor

/- The world of a row: a world in which the listed tables lie. -/
namespace Go.Proofs.YtpabbmiibehfjaaGreatDoor
open Go.ChangeShapes Go.WideShapes Go.ChangeAt Go.RowKit
set_option linter.unusedVariables false

def litV {H : Type} : DataW H → Value
  | .lit (.int k n) => .int k n
  | _ => undef
def flatV {H : Type} : DataW H → List Value
  | .agg l => l.map litV
  | x => [litV x]
def cellsV {H : Type} : DataW H → Array Value
  | .agg l => (l.flatMap flatV).toArray
  | x => #[litV x]
def laidInto (c : Array Value) : Obj → Obj
  | .cells _ t frozen => .cells c t frozen
  | o => o
theorem gFirst : Tryz.prog.globalNamed "unicode/utf8.first" = some 1 := by kernel_rfl
theorem gAcc : Tryz.prog.globalNamed "unicode/utf8.acceptRanges" = some 2 := by kernel_rfl
/-- A world in which the two tables lie. -/
noncomputable def laidWorld (os : Os) : World :=
  { World.holding Tryz.prog os ⟨#[], #[], []⟩ with heap := ((World.holding Tryz.prog os ⟨#[], #[], []⟩).heap.modify 1 (laidInto (cellsV Rows.laid_unicode_utf8_first))).modify 2 (laidInto (cellsV (H := Unit) Rows.laid_unicode_utf8_acceptRanges)) }
end Go.Proofs.YtpabbmiibehfjaaGreatDoor

