/- The program's own readOne, read, Decode. -/
import Derived.Test.YtailaehpgmpaaaaDtext
import Derived.Test.YtailaehpgmpaaaaRdec
import Derived.Test.YtailaehpgmpaaaaEcheck
import Derived.Test.YtailaehpgmpaaaaEenc
namespace Go.Proofs.Ytailaehpgmpaaaa
open Go.RowKit
set_option linter.unusedVariables false

/-- A label in a block of its own. -/
def Pair (w : World) (g : Nat) (x y : ByteArray) : Prop := w.heap[g]? = some (.cells #[.string x, .string y] 52 (0, 0))
section
variable {w w' : World} {g : Nat} {x y : ByteArray}
theorem Pair.c0 (h : Pair w g x y) : w.cell? ⟨g, 0, none⟩ = some (.string x) := by rw [cell_of_row w g 0 _ _ _ h]; rfl
theorem Pair.c1 (h : Pair w g x y) : w.cell? ⟨g, 1, none⟩ = some (.string y) := by rw [cell_of_row w g 1 _ _ _ h]; rfl
theorem Pair.f0 (h : Pair w g x y) : w.frozen? ⟨g, 0, none⟩ = false := by unfold Pair at h; simp [World.frozen?, h]
theorem Pair.f1 (h : Pair w g x y) : w.frozen? ⟨g, 1, none⟩ = false := by unfold Pair at h; simp [World.frozen?, h]
theorem Pair.lt (h : Pair w g x y) : g < w.heap.size := (Array.getElem?_eq_some_iff.1 h).1
theorem Pair.grown (h : Pair w g x y) (hg : w.grownBy w' none) : Pair w' g x y := (hg.block g h.lt (by simp)).trans h
theorem Pair.new (w : World) (x y : ByteArray) : Pair (w.alloc (.cells #[.string x, .string y] 52)) w.heap.size x y := heap_alloc_new w _
theorem Pair.set (h : Pair w g x y) (x' y' : ByteArray) : Pair ((w.setCell ⟨g, 0, none⟩ (.string x')).setCell ⟨g, 1, none⟩ (.string y')) g x' y' := by
  have h1 : (w.setCell ⟨g, 0, none⟩ (.string x')).heap[g]? = some (.cells #[.string x', .string y] 52 (0, 0)) := by
    unfold Pair at h
    rw [setCell_eq_setRow w g 0 _ 52 (0, 0) _ h, setRow_heap w g _ _ 52 _ h]
    rfl
  unfold Pair
  rw [setCell_eq_setRow _ g 1 _ 52 (0, 0) _ h1, setRow_heap _ g _ _ 52 _ h1]
  rfl
theorem Pair.var (h : Pair w g x y) : (loadVar 52 ⟨g, 0, none⟩).run Try.prog w = .ok (.agg #[.string x, .string y]) w :=
  run_loadVar_row w g 52 52 _ _ (.struct (Try.prog.fieldsOf 52)) h (by kernel_rfl) rfl (by kernel_rfl)
end
theorem gb_pair {w w1 : World} {g : Nat} (hg : w.grownBy w1 none) (hn : w.heap.size ≤ g) (u v : Value) : w.grownBy ((w1.setCell ⟨g, 0, none⟩ u).setCell ⟨g, 1, none⟩ v) none :=
  gb_trans (gb_trans hg (gb_set (g := g) rfl) (fun k hk => .inl (by cases hk; exact hn))) (gb_set (g := g) rfl) (fun k hk => .inl (by cases hk; exact hn))
theorem results_cell3 {fn : Func} {p t u : Tmp} {ty : TypeId} (h : fn.results = #[.cell p ty, .tmp t, .tmp u]) (tmps : Array Value) (P : Program) (w : World) (ad : Addr) (v : Value) (h1 : tmps.getD p undef = .pointer (some ad)) (h2 : (loadVar ty ad).run P w = .ok v w) :
    (results fn tmps).run P w = .ok (.tuple #[v, tmps.getD t undef, tmps.getD u undef]) w := by
  rw [Array.getD_eq_getD_getElem?] at h1
  simp only [results, h]
  simp [h1, asAddr, h2]

def oneR (zs : List Int) (p : Int) : Lab × Int × Int :=
  if (textR zs p).2.2 ≠ 0 then ((⟨#[]⟩, ⟨#[]⟩), 0, (textR zs p).2.2)
  else if (textR zs (textR zs p).2.1).2.2 ≠ 0 then ((⟨#[]⟩, ⟨#[]⟩), 0, (textR zs (textR zs p).2.1).2.2)
  else (((textR zs p).1, (textR zs (textR zs p).2.1).1), (textR zs (textR zs p).2.1).2.1, 0)
theorem decL_one (zs : List Int) (m : Nat) (p : Int) (acc : List Lab) : decL zs (m + 1) p acc = if (oneR zs p).2.2 ≠ 0 then ([], 0, (oneR zs p).2.2) else decL zs m (oneR zs p).2.1 (acc ++ [(oneR zs p).1]) := by
  rw [decL]
  unfold oneR
  by_cases h1 : (textR zs p).2.2 = 0
  · by_cases h2 : (textR zs (textR zs p).2.1).2.2 = 0
    · simp [h1, h2]
    · simp [h1, h2]
  · simp [h1]

set_option maxHeartbeats 1000000 in
theorem g_readone (a : Option Addr) (zs : List Int) (L cap : Nat) (p : Int) (s1 s2 : ByteArray) (q e3 : Int) (w : World) (hr : Rd w a zs) (hL : zs.length = L) (hcap : L ≤ cap) (hz : (L : Int) ≤ 140737488355000) (hR : oneR zs p = ((s1, s2), q, e3)) :
    Calls Try.prog 74 #[.slice a L cap, .int .i64 p] w fun e w' => e = .returned (.tuple #[.agg #[.string s1, .string s2], .int .i64 q, .int .i64 e3]) ∧ w.grownBy w' none := by
  have HT : Hid (∀ p s r2 r3, textR zs p = (s, r2, r3) → ∀ w', w.grownBy w' none → Calls Try.prog 87 #[.slice a L cap, .int .i64 p] w' fun e w'' => e = .returned (.tuple #[.string s, .int .i64 r2, .int .i64 r3]) ∧ w'.grownBy w'' none) :=
    fun p s r2 r3 h w' hg => f_text a zs L cap p s r2 r3 w' (hr.grown hg (by simp)) hL hcap hz h
  obtain ⟨t1, q1, f1, e1⟩ : ∃ t1 q1 f1, textR zs p = (t1, q1, f1) := ⟨_, _, _, rfl⟩
  obtain ⟨t2, q2, f2, e2⟩ : ∃ t2 q2 f2, textR zs q1 = (t2, q2, f2) := ⟨_, _, _, rfl⟩
  have HT1 : Hid (∀ w', w.grownBy w' none → Calls Try.prog 87 #[.slice a L cap, .int .i64 p] w' fun e w'' => e = .returned (.tuple #[.string t1, .int .i64 q1, .int .i64 f1]) ∧ w'.grownBy w'' none) := HT.out _ _ _ _ e1
  have HT2 : Hid (∀ w', w.grownBy w' none → Calls Try.prog 87 #[.slice a L cap, .int .i64 q1] w' fun e w'' => e = .returned (.tuple #[.string t2, .int .i64 q2, .int .i64 f2]) ∧ w'.grownBy w'' none) := HT.out _ _ _ _ e2
  unfold oneR at hR
  rw [e1] at hR
  simp only at hR
  rw [e2] at hR
  simp only at hR
  clear HT hr hL e1 e2
  by_cases h1 : f1 = 0
  · have b1 : (f1 != 0) = false := by simpa using h1
    rw [if_neg (by simpa using h1)] at hR
    by_cases h2 : f2 = 0
    · have b2 : (f2 != 0) = false := by simpa using h2
      rw [if_neg (by simpa using h2)] at hR
      simp only [Prod.mk.injEq] at hR
      obtain ⟨⟨rfl, rfl⟩, rfl, rfl⟩ := hR
      clear h1 h2
      go_enter Try.func74, Try.ntmps74
      go_wp2_with fail
      refine (HT1.out _ (World.grownBy_alloc w _ none)).mono ?_
      rintro e w1 ⟨rfl, hg1⟩
      have HP : Hid (Pair w1 w.heap.size ⟨#[]⟩ ⟨#[]⟩) := (Pair.new w _ _).grown hg1
      have HG : Hid (w.grownBy w1 none) := (World.grownBy_alloc w _ none).trans hg1
      clear hg1
      go_wp2_with fail
      refine (HT2.out _ HG.out).mono ?_
      rintro e w2 ⟨rfl, hg2⟩
      have HP2 : Hid (Pair w2 w.heap.size ⟨#[]⟩ ⟨#[]⟩) := HP.out.grown hg2
      have HG2 : Hid (w.grownBy w2 none) := HG.out.trans hg2
      have c0 := HP2.out.c0
      have c1 := HP2.out.c1
      have g0 := HP2.out.f0
      have g1 := HP2.out.f1
      clear hg2 HP HG
      go_wp2
      refine bodyPost_ret (results_cell3 Try.results74 _ _ _ _ _ rfl (HP2.out.set t1 t2).var) rfl ⟨rfl, gb_pair HG2.out (Nat.le_refl _) _ _⟩
    · have b2 : (f2 != 0) = true := by simpa using h2
      rw [if_pos (by simpa using h2)] at hR
      simp only [Prod.mk.injEq] at hR
      obtain ⟨⟨rfl, rfl⟩, rfl, rfl⟩ := hR
      clear h1 h2
      go_enter Try.func74, Try.ntmps74
      go_wp2_with fail
      refine (HT1.out _ (World.grownBy_alloc w _ none)).mono ?_
      rintro e w1 ⟨rfl, hg1⟩
      have HP : Hid (Pair w1 w.heap.size ⟨#[]⟩ ⟨#[]⟩) := (Pair.new w _ _).grown hg1
      have HG : Hid (w.grownBy w1 none) := (World.grownBy_alloc w _ none).trans hg1
      clear hg1
      go_wp2_with fail
      refine (HT2.out _ HG.out).mono ?_
      rintro e w2 ⟨rfl, hg2⟩
      have HP2 : Hid (Pair w2 w.heap.size ⟨#[]⟩ ⟨#[]⟩) := HP.out.grown hg2
      have HG2 : Hid (w.grownBy w2 none) := HG.out.trans hg2
      have c0 := HP2.out.c0
      have c1 := HP2.out.c1
      have g0 := HP2.out.f0
      have g1 := HP2.out.f1
      clear hg2 HP HG
      go_wp2
      refine bodyPost_ret (results_cell3 Try.results74 _ _ _ _ _ rfl (HP2.out.set ⟨#[]⟩ ⟨#[]⟩).var) rfl ⟨rfl, gb_pair HG2.out (Nat.le_refl _) _ _⟩
  · have b1 : (f1 != 0) = true := by simpa using h1
    rw [if_pos (by simpa using h1)] at hR
    simp only [Prod.mk.injEq] at hR
    obtain ⟨⟨rfl, rfl⟩, rfl, rfl⟩ := hR
    clear h1 HT2
    go_enter Try.func74, Try.ntmps74
    go_wp2_with fail
    refine (HT1.out _ (World.grownBy_alloc w _ none)).mono ?_
    rintro e w1 ⟨rfl, hg1⟩
    have HP2 : Hid (Pair w1 w.heap.size ⟨#[]⟩ ⟨#[]⟩) := (Pair.new w _ _).grown hg1
    have HG2 : Hid (w.grownBy w1 none) := (World.grownBy_alloc w _ none).trans hg1
    have c0 := HP2.out.c0
    have c1 := HP2.out.c1
    have g0 := HP2.out.f0
    have g1 := HP2.out.f1
    clear hg1
    go_wp2
    refine bodyPost_ret (results_cell3 Try.results74 _ _ _ _ _ rfl (HP2.out.set ⟨#[]⟩ ⟨#[]⟩).var) rfl ⟨rfl, gb_pair HG2.out (Nat.le_refl _) _ _⟩
end Go.Proofs.Ytailaehpgmpaaaa
