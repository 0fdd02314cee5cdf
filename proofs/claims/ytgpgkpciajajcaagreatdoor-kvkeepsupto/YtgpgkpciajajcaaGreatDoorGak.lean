/- Several texts in one: Wl. -/
import Derived.Test.YtgpgkpciajajcaaGreatDoorGaj
import Derived.Deep.RegionWith
import Derived.Deep.CutRange
/- Package wal: look: what a log finds of its own files. -/
namespace Go.Proofs.YtgpgkpciajajcaaGreatDoor
open Go.RowKit Go.Maps Go.Sort
set_option linter.unusedVariables false
set_option maxRecDepth 20000

theorem has_cancel (p a b : List UInt8) : Lib.hasPrefix (p ++ b) (p ++ a) = Lib.hasPrefix b a := by
  unfold Lib.hasPrefix
  induction p with
  | nil => rfl
  | cons x p ih => simp [ih]
theorem app_list (a b : ByteArray) : (a ++ b).data.toList = a.data.toList ++ b.data.toList := by rw [ba_app, bN_list]
theorem c_new (dir : ByteArray) : Lib.hasPrefix (newN dir).data.toList (dir ++ ⟨#[47, 99]⟩ : ByteArray).data.toList = false := by
  rw [app_list, newN, bN_list, has_cancel]; rfl
theorem c_seg (dir : ByteArray) (k : Nat) : Lib.hasPrefix (segN dir k).data.toList (dir ++ ⟨#[47, 99]⟩ : ByteArray).data.toList = false := by
  rw [app_list, segN, bN_list, has_cancel]; rfl
theorem s_new (dir : ByteArray) : Lib.hasPrefix (newN dir).data.toList (dir ++ ⟨#[47, 115]⟩ : ByteArray).data.toList = false := by
  rw [app_list, newN, bN_list, has_cancel]; rfl
theorem s_cp (dir : ByteArray) (k : Nat) : Lib.hasPrefix (cpN dir k).data.toList (dir ++ ⟨#[47, 115]⟩ : ByteArray).data.toList = false := by
  rw [app_list, cpN, bN_list, has_cancel]; rfl
theorem c_cp (dir : ByteArray) (k : Nat) : (cpN dir k).data.toList = (dir ++ ⟨#[47, 99]⟩ : ByteArray).data.toList ++ d8 k := by
  rw [app_list, cpN, bN_list, List.append_assoc]
theorem s_seg (dir : ByteArray) (k : Nat) : (segN dir k).data.toList = (dir ++ ⟨#[47, 115]⟩ : ByteArray).data.toList ++ d8 k := by
  rw [app_list, segN, bN_list, List.append_assoc]
/-- What was found so far: the struct at f. -/
structure LookAt (w0 w : World) (f : Nat) (cs ss : List Nat) (dr : Bool) : Prop where
  ex : ∃ a0 c0 a1 c1 b1, w.rowIs f 169 3 (fun | 0 => .slice a0 cs.length c0 | 1 => .slice a1 ss.length c1 | _ => .bool dr) ∧ SOwn intE 3 w w0.heap.size (.slice a0 cs.length c0) cs.length (nI cs) ∧ SOwn intE 3 w b1 (.slice a1 ss.length c1) ss.length (nI ss) ∧ (∀ y, a0 = some y → y.block < b1) ∧ w0.heap.size ≤ b1 ∧ b1 ≤ w.heap.size ∧ (ss = [] → a1 = none ∧ c1 = 0)
  kept : w0.grownBy w (some f)
def dl (draft : Bool) : Nat := if draft = true then 1 else 0
theorem names_len (dir : ByteArray) (cps segs : List Nat) (draft : Bool) : (namesL dir cps draft segs).length = cps.length + (dl draft + segs.length) := by
  cases draft <;> simp [namesL, dl]; omega
theorem names_get (dir : ByteArray) (cps segs : List Nat) (draft : Bool) (i : Nat) (h : i < (namesL dir cps draft segs).length) :
    (∃ k, cps[i]? = some k ∧ (namesL dir cps draft segs)[i]? = some (cpN dir k)) ∨ (draft = true ∧ i = cps.length ∧ (namesL dir cps draft segs)[i]? = some (newN dir)) ∨ (∃ j k, segs[j]? = some k ∧ i = cps.length + dl draft + j ∧ (namesL dir cps draft segs)[i]? = some (segN dir k)) := by
  rw [names_len] at h
  unfold namesL
  rcases Nat.lt_or_ge i cps.length with h1 | h1
  · left
    refine ⟨cps[i], List.getElem?_eq_getElem h1, ?_⟩
    rw [List.getElem?_append_left (by simpa using h1)]
    simp [h1]
  · right
    rw [List.getElem?_append_right (by simpa using h1), List.length_map]
    cases draft with
    | true =>
      rcases Nat.eq_or_lt_of_le h1 with h2 | h2
      · left
        refine ⟨rfl, h2.symm, ?_⟩
        rw [h2]
        simp
      · right
        have h3 : i - cps.length - 1 < segs.length := by simp [dl] at h; omega
        refine ⟨i - cps.length - 1, segs[i - cps.length - 1], List.getElem?_eq_getElem h3, by simp [dl]; omega, ?_⟩
        rw [List.getElem?_append_right (by simp; omega)]
        simp [h3]
    | false =>
      right
      have h3 : i - cps.length < segs.length := by simp [dl] at h; omega
      refine ⟨i - cps.length, segs[i - cps.length], List.getElem?_eq_getElem h3, by simp [dl]; omega, ?_⟩
      simp [h3]
def stS (cps segs : List Nat) (draft : Bool) (i : Nat) : List Nat := segs.take (i - cps.length - dl draft)
def stD (cps : List Nat) (draft : Bool) (i : Nat) : Bool := draft && decide (cps.length < i)
theorem st_cp {cps segs : List Nat} {draft : Bool} {i k : Nat} (h : cps[i]? = some k) : cps.take (i + 1) = cps.take i ++ [k] ∧ stS cps segs draft (i + 1) = [] ∧ stS cps segs draft i = [] ∧ stD cps draft (i + 1) = stD cps draft i := by
  have hl := (List.getElem?_eq_some_iff.1 h).1
  refine ⟨by rw [List.take_add_one, h]; rfl, ?_, ?_, ?_⟩
  · unfold stS; rw [show i + 1 - cps.length - dl draft = 0 by omega]; rfl
  · unfold stS; rw [show i - cps.length - dl draft = 0 by omega]; rfl
  · unfold stD; rw [show decide (cps.length < i + 1) = decide (cps.length < i) by simp; omega]
theorem st_new {cps segs : List Nat} {i : Nat} (h : i = cps.length) : cps.take (i + 1) = cps.take i ∧ stS cps segs true (i + 1) = stS cps segs true i ∧ stD cps true (i + 1) = true := by
  subst h
  refine ⟨by rw [List.take_of_length_le (by omega), List.take_of_length_le (Nat.le_refl _)], ?_, ?_⟩
  · unfold stS dl; rw [if_pos rfl, show cps.length + 1 - cps.length - 1 = cps.length - cps.length - 1 by omega]
  · unfold stD; simp
theorem st_seg {cps segs : List Nat} {draft : Bool} {i j k : Nat} (h : segs[j]? = some k) (hi : i = cps.length + dl draft + j) : cps.take (i + 1) = cps.take i ∧ stS cps segs draft (i + 1) = stS cps segs draft i ++ [k] ∧ stD cps draft (i + 1) = stD cps draft i := by
  subst hi
  refine ⟨by rw [List.take_of_length_le (by omega), List.take_of_length_le (by omega)], ?_, ?_⟩
  · unfold stS
    rw [show cps.length + dl draft + j + 1 - cps.length - dl draft = j + 1 by omega, show cps.length + dl draft + j - cps.length - dl draft = j by omega, List.take_add_one, h]
    rfl
  · unfold stD
    cases draft with
    | true => simp [dl]; omega
    | false => rfl
theorem st_zero {cps segs : List Nat} {draft : Bool} : stS cps segs draft 0 = [] ∧ stD cps draft 0 = false := by
  refine ⟨?_, ?_⟩
  · unfold stS; rw [show 0 - cps.length - dl draft = 0 by omega]; rfl
  · unfold stD; simp
theorem sownSl {α : Type} {E : Elem α} {e : TypeId} {w : World} {base n : Nat} {v : Value} {l : List α} (h : SOwn E e w base v n l) : ∃ a c, v = .slice a n c := by
  rcases h.2 with ⟨h', h0⟩ | ⟨g, cap, cur, h', _⟩
  · subst h0; exact ⟨_, _, h'⟩
  · exact ⟨_, _, h'⟩
theorem ownNe {α : Type} {E : Elem α} {e : TypeId} {w : World} {base n f : Nat} {v : Value} {l : List α} (h : SOwn E e w base v n l) (hf : f < base) : some f ≠ v.ownBlock := fun e => by
  have := (h.block f e.symm).1
  omega
/-- Behind an append to one of the struct's fields, and its store there. -/
theorem look_put {wr w1 w3 : World} {f p d i : Nat} {o : Obj} {g : Nat → Value} {b : Option Nat} {dir cp : ByteArray} {v u : Value} {op : Int} (hrow : wr.rowIs f 169 3 g) (hw : WRow wr p d dir cp v op) (hpf : p < f) (hg1 : wr.grownBy w1 none) (hg3 : (w1.alloc o).grownBy w3 b) (hne : some f ≠ b) (hne2 : some p ≠ b) (hi : i < 3) :
    w3.cell? ⟨f, i, none⟩ = some (g i) ∧ w3.frozen? ⟨f, i, none⟩ = false ∧ (w3.setCell ⟨f, i, none⟩ u).rowIs f 169 3 (fun j => if j = i then u else g j) ∧ WRow (w3.setCell ⟨f, i, none⟩ u) p d dir cp v op := by
  have h1 := hrow.of_block (hg1.block f hrow.lt (by simp))
  have h3 : w3.rowIs f 169 3 g := (h1.alloc o).of_block (hg3.block f (h1.alloc o).lt hne)
  have k1 := hw.kept hg1 (by simp)
  have k2 : WRow (w1.alloc o) p d dir cp v op := k1.kept (World.grownBy_alloc w1 o none) (by simp)
  have k3 := k2.kept hg3 hne2
  exact ⟨h3.cell hi, h3.frozen i, h3.set i u, k3.setOther (by show p ≠ f; omega) _⟩
theorem ilit (w : World) (l : List Int) : SRd intE (w.alloc (.cells (intE.flat l).toArray 3)) (some ⟨w.heap.size, 0, none⟩) l := by
  refine .inr ⟨w.heap.size, 0, rfl, fun j v hj => ?_⟩
  rw [Nat.zero_add, cell_of_row _ w.heap.size j _ 3 _ (heap_alloc_new w _)]
  simpa using hj
theorem st_end (dir : ByteArray) (cps segs : List Nat) (draft : Bool) : cps.take (namesL dir cps draft segs).length = cps ∧ stS cps segs draft (namesL dir cps draft segs).length = segs ∧ stD cps draft (namesL dir cps draft segs).length = (draft && decide (0 < dl draft + segs.length)) := by
  rw [names_len]
  refine ⟨List.take_of_length_le (by omega), ?_, ?_⟩
  · unfold stS; exact List.take_of_length_le (by omega)
  · unfold stD; congr 1; simp
def fobj : Obj := .cells #[.slice none 0 0, .slice none 0 0, .bool false] 169
theorem three {P : Nat → Prop} (h0 : P 0) (h1 : P 1) (h2 : P 2) : ∀ j, j < 3 → P j := by
  intro j hj
  match j, hj with
  | 0, _ => exact h0
  | 1, _ => exact h1
  | 2, _ => exact h2
def lookF (v0 v1 : Value) (dr : Bool) : Nat → Value
  | 0 => v0
  | 1 => v1
  | _ => .bool dr
theorem own_le {w : World} {base n c : Nat} {a : Option Addr} {l : List Int} (h : SOwn intE 3 w base (.slice a n c) n l) : ∀ y, a = some y → base ≤ y.block ∧ y.block < w.heap.size := fun y hy => by
  subst hy
  exact h.block y.block rfl
theorem look_grown {w0 wr w1 w3 : World} {f i : Nat} {o : Obj} {b : Option Nat} {u : Value} (hg : w0.grownBy wr (some f)) (hg1 : wr.grownBy w1 none) (hg3 : (w1.alloc o).grownBy w3 b) (hb : ∀ k, b = some k → w0.heap.size ≤ k) : w0.grownBy (w3.setCell ⟨f, i, none⟩ u) (some f) :=
  gb_trans (gb_trans (gb_trans (gb_trans hg hg1 (fun k hk => by cases hk)) (World.grownBy_alloc w1 o none) (fun k hk => by cases hk)) hg3 (fun k hk => .inl (hb k hk))) (gb_set rfl) (fun k hk => .inr hk)
theorem look_cp {w0 wr w1 w3 : World} {f L k k0 k3 : Nat} {cs : List Nat} {dr : Bool} {a0 a3 : Option Addr} {o : Obj} {g : Nat → Value} (hf : f < w0.heap.size) (hg : w0.grownBy wr (some f)) (hg1 : wr.grownBy w1 none) (hg3 : (w1.alloc o).grownBy w3 (Value.ownBlock (.slice a0 L k0))) (hL : L = cs.length) (ho0 : SOwn intE 3 wr w0.heap.size (.slice a0 L k0) L (nI cs)) (ho3 : SOwn intE 3 w3 w0.heap.size (.slice a3 (L + 1) k3) (L + 1) (nI cs ++ [(k : Int)])) (hr : (w3.setCell ⟨f, 0, none⟩ (.slice a3 (L + 1) k3)).rowIs f 169 3 g) (h0 : g 0 = .slice a3 (L + 1) k3) (h1 : g 1 = .slice none 0 0) (h2 : g 2 = .bool dr) :
    LookAt w0 (w3.setCell ⟨f, 0, none⟩ (.slice a3 (L + 1) k3)) f (cs ++ [k]) [] dr := by
  have hgs : w3.grownBy (w3.setCell ⟨f, 0, none⟩ (.slice a3 (L + 1) k3)) (some f) := gb_set rfl
  have e1 : (cs ++ [k]).length = L + 1 := by simp [hL]
  have hall := look_grown (i := 0) (u := .slice a3 (L + 1) k3) hg hg1 hg3 (fun k hk => (ho0.block k hk).1)
  have ho4 := SOwn.kept ho3 hgs (.inr (fun e => by have := (ho3.block f e).1; omega))
  refine ⟨⟨a3, k3, none, 0, (w3.setCell ⟨f, 0, none⟩ (.slice a3 (L + 1) k3)).heap.size, ?_, ?_, SOwn.nil 3 _ _, fun y hy => (own_le ho4 y hy).2, hall.size, Nat.le_refl _, fun _ => ⟨rfl, rfl⟩⟩, hall⟩
  · rw [e1]
    exact hr.congr (three h0 h1 h2)
  · rw [e1, nI_app]
    exact ho4
theorem look_seg {w0 wr w1 w3 : World} {f L M k k0 k1 k3 b1 : Nat} {cs ss : List Nat} {dr : Bool} {a0 a1 a3 : Option Addr} {o : Obj} {g : Nat → Value} (hf : f < w0.heap.size) (hg : w0.grownBy wr (some f)) (hg1 : wr.grownBy w1 none) (hg3 : (w1.alloc o).grownBy w3 (Value.ownBlock (.slice a1 M k1))) (hL : L = cs.length) (hM : M = ss.length) (ho0 : SOwn intE 3 wr w0.heap.size (.slice a0 L k0) L (nI cs)) (ho1 : SOwn intE 3 wr b1 (.slice a1 M k1) M (nI ss)) (hb0 : ∀ y, a0 = some y → y.block < b1) (hb1 : w0.heap.size ≤ b1) (hb2 : b1 ≤ wr.heap.size) (ho3 : SOwn intE 3 w3 b1 (.slice a3 (M + 1) k3) (M + 1) (nI ss ++ [(k : Int)])) (hr : (w3.setCell ⟨f, 1, none⟩ (.slice a3 (M + 1) k3)).rowIs f 169 3 g) (h0 : g 0 = .slice a0 L k0) (h1 : g 1 = .slice a3 (M + 1) k3) (h2 : g 2 = .bool dr) :
    LookAt w0 (w3.setCell ⟨f, 1, none⟩ (.slice a3 (M + 1) k3)) f cs (ss ++ [k]) dr := by
  have hgs : w3.grownBy (w3.setCell ⟨f, 1, none⟩ (.slice a3 (M + 1) k3)) (some f) := gb_set rfl
  have e1 : (ss ++ [k]).length = M + 1 := by simp [hM]
  have hall := look_grown (i := 1) (u := .slice a3 (M + 1) k3) hg hg1 hg3 (fun k hk => Nat.le_trans hb1 (ho1.block k hk).1)
  have ho4 := SOwn.kept ho3 hgs (.inr (fun e => by have := (ho3.block f e).1; omega))
  have ho5 := SOwn.kept (SOwn.kept (SOwn.kept ho0 (hg1.trans (World.grownBy_alloc w1 o none)) (by cases a0 <;> simp [Value.ownBlock])) hg3 (by
    cases a0 with
    | none => exact .inl rfl
    | some y => exact .inr (fun e => by have h1 := (ho1.block y.block e.symm).1; have h2 := hb0 y rfl; omega))) hgs (by
    cases a0 with
    | none => exact .inl rfl
    | some y => exact .inr (fun e => by have h1 := (ho0.block y.block rfl).1; have h2 : y.block = f := Option.some.inj e; omega))
  refine ⟨⟨a0, k0, a3, k3, b1, ?_, by rw [← hL]; exact ho5, ?_, hb0, hb1, ?_, fun h => by simp at h⟩, hall⟩
  · rw [e1, ← hL]
    exact hr.congr (three h0 h1 h2)
  · rw [e1, nI_app]
    exact ho4
  · have h1 := hg1.size
    have h2 := hg3.size
    have h3 : (w1.alloc o).heap.size = w1.heap.size + 1 := Array.size_push _
    have h4 := hgs.size
    omega
theorem look_new {w0 wr : World} {f L M k0 k1 b1 : Nat} {cs ss : List Nat} {a0 a1 : Option Addr} {g : Nat → Value} (hf : f < w0.heap.size) (hg : w0.grownBy wr (some f)) (hL : L = cs.length) (hM : M = ss.length) (hrow : wr.rowIs f 169 3 g) (ho0 : SOwn intE 3 wr w0.heap.size (.slice a0 L k0) L (nI cs)) (ho1 : SOwn intE 3 wr b1 (.slice a1 M k1) M (nI ss)) (hb0 : ∀ y, a0 = some y → y.block < b1) (hb1 : w0.heap.size ≤ b1) (hb2 : b1 ≤ wr.heap.size) (hnil : ss = [] → a1 = none ∧ k1 = 0) (h0 : g 0 = .slice a0 L k0) (h1 : g 1 = .slice a1 M k1) :
    LookAt w0 (wr.setCell ⟨f, 2, none⟩ (.bool true)) f cs ss true := by
  have hgs : wr.grownBy (wr.setCell ⟨f, 2, none⟩ (.bool true)) (some f) := gb_set rfl
  refine ⟨⟨a0, k0, a1, k1, b1, ?_, ?_, ?_, hb0, hb1, Nat.le_trans hb2 hgs.size, hnil⟩, gb_trans hg hgs (fun k hk => .inr hk)⟩
  · rw [← hL, ← hM]
    exact (hrow.set 2 (.bool true)).congr (three h0 h1 rfl)
  · rw [← hL]
    refine SOwn.kept ho0 hgs ?_
    cases a0 with
    | none => exact .inl rfl
    | some y => exact .inr (fun e => by have h1 := (ho0.block y.block rfl).1; have h2 : y.block = f := Option.some.inj e; omega)
  · rw [← hM]
    refine SOwn.kept ho1 hgs ?_
    cases a1 with
    | none => exact .inl rfl
    | some y => exact .inr (fun e => by have h1 := (ho1.block y.block rfl).1; have h2 : y.block = f := Option.some.inj e; omega)
def FolderV (v0 v1 : Value) (dr : Bool) : Value := .agg #[v0, v1, .bool dr]
/-- What look answers. -/
def LookOut (w : World) (cps segs : List Nat) (draft : Bool) (e : Ending) (w' : World) : Prop := ∃ a0 k0 a1 k1 b1, e = .returned (FolderV (.slice a0 cps.length k0) (.slice a1 segs.length k1) draft) ∧ SOwn intE 3 w' w.heap.size (.slice a0 cps.length k0) cps.length (nI cps) ∧ SOwn intE 3 w' b1 (.slice a1 segs.length k1) segs.length (nI segs) ∧ (∀ y, a0 = some y → y.block < b1) ∧ w.heap.size ≤ b1 ∧ w.grownBy w' none ∧ (segs = [] → a1 = none ∧ k1 = 0)
theorem load_folder {w : World} {b : Nat} {v0 v1 : Value} {dr : Bool} (h : w.rowIs b 169 3 (lookF v0 v1 dr)) (h0 : v0.cells = #[v0]) (h1 : v1.cells = #[v1]) : (loadVar 169 ⟨b, 0, none⟩).run Tryz.prog w = .ok (FolderV v0 v1 dr) w := by
  have c0 : w.cell? ⟨b, 0, none⟩ = some v0 := h.cell (i := 0) (by omega)
  have c1 : w.cell? ⟨b, 1, none⟩ = some v1 := h.cell (i := 1) (by omega)
  have c2 : w.cell? ⟨b, 2, none⟩ = some (.bool dr) := h.cell (i := 2) (by omega)
  simp [loadVar, go_sem, Tryz.isAgg169, Tryz.sizeOf169, FolderV, c0, c1, c2]
set_option maxHeartbeats 8000000 in
theorem w_look (base p d mb n : Nat) (dir cp : ByteArray) (v : Value) (op : Int) (x : DSt) (B : Nat → Prop) (cps segs : List Nat) (draft : Bool) (w : World) (hdir : dirB dir = true) (h : WRow w p d dir cp v op) (hd : DS w base d mb n x B) (hon : x.off = false) (hF : Folder x.V dir cps draft segs) (hn : n ≤ 4194304) (hpos : ∀ k ∈ segs, 0 < k) :
    Calls Tryz.prog 149 #[.pointer (some ⟨p, 0, none⟩)] w (LookOut w cps segs draft) := by
  have hds : dir.size ≤ 32 := by simp only [dirB, Bool.and_eq_true, decide_eq_true_eq] at hdir; exact hdir.2
  have hgA := World.grownBy_alloc w fobj none
  have hgB : w.grownBy ((w.alloc fobj).alloc fobj) none := hgA.trans (World.grownBy_alloc _ fobj none)
  have hWA := h.kept hgA (by simp)
  have hWB := h.kept hgB (by simp)
  obtain ⟨c0, c1, r1, r2, r3⟩ := hWA.cells
  obtain ⟨c0b, c1b, r4, r5, r6⟩ := hWB.cells
  clear r1 r2 r3 r4 r5 r6
  have HUP : Hid (Calls Tryz.prog 10 #[.pointer (some ⟨d, 0, none⟩)] (w.alloc fobj) fun e w' => e = .returned (.bool true) ∧ (w.alloc fobj) = w') := by
    have := d_up d mb x.off x.set x.ah x.kp x.wn (w.alloc fobj) (DV.row (DV.kept hd hgA))
    rw [hon] at this
    exact this
  have HL : Hid (Calls Tryz.prog 24 #[.pointer (some ⟨d, 0, none⟩), .string (inN dir)] ((w.alloc fobj).alloc fobj).drew fun e w' => ∃ a c l, e = .returned (.slice a l.length c) ∧ SOwn strE 9 w' ((w.alloc fobj).alloc fobj).drew.heap.size (.slice a l.length c) l.length l ∧ ((w.alloc fobj).alloc fobj).drew.grownBy w' none ∧ NamesOf x.V (inN dir) l ∧ l.length ≤ n) := x_list base d mb n x B (inN dir) _ (DV.kept hd (gb_drew hgB)) hon hn
  have HCR : Hid (∀ k ∈ cps, k < 100000000) := hF.cpr.2
  have HSR : Hid (∀ k ∈ segs, k < 100000000) := hF.segr.2
  have HN : Hid (NamesOf x.V (inN dir) (namesL dir cps draft segs)) := hF.names
  have HW : Hid (WRow w p d dir cp v op) := h
  have HGB : Hid (w.grownBy ((w.alloc fobj).alloc fobj) none) := hgB
  have HRB : Hid (((w.alloc fobj).alloc fobj).rowIs (w.heap.size + 1) 169 3 (fun | 0 => .slice none 0 0 | 1 => .slice none 0 0 | _ => .bool false)) := by
    show World.rowIs _ _ _ _ _
    have := World.rowIs_alloc (w.alloc fobj) #[.slice none 0 0, .slice none 0 0, .bool false] 169 (fun | 0 => .slice none 0 0 | 1 => .slice none 0 0 | _ => .bool false) (three rfl rfl rfl)
    rw [show (w.alloc fobj).heap.size = w.heap.size + 1 from Array.size_push _] at this
    exact this
  have q1 : ¬ (9223372036854775807 : Nat) < dir.size + 1 := by omega
  have q2 : ¬ (9223372036854775807 : Nat) < dir.size + 2 := by omega
  have HS2 : Hid (((w.alloc fobj).alloc fobj).drew.heap.size = w.heap.size + 2) := (Array.size_push _).trans (congrArg (· + 1) (Array.size_push _))
  unfold fobj at c0 c1 c0b c1b HUP HL HGB HRB HS2
  clear h hd hWA hWB hgA hgB hF
  go_enter Tryz.func149, Tryz.ntmps149
  go_wp2_with fail
  refine HUP.out.mono ?_
  rintro e w1 ⟨rfl, rfl⟩
  go_upto_region 4 with fail
  go_cut [26, 27, 28] from 10 (fun t26 t27 t28 wc => ∃ a c, t26 = .slice a (namesL dir cps draft segs).length c ∧ t27 = .int .i64 ((namesL dir cps draft segs).length : Int) ∧ t28 = .int .i64 0 ∧ SRd strE wc a (namesL dir cps draft segs) ∧ (∀ y, a = some y → w.heap.size + 2 ≤ y.block ∧ y.block < wc.heap.size) ∧ ((w.alloc (.cells #[.slice none 0 0, .slice none 0 0, .bool false] 169)).alloc (.cells #[.slice none 0 0, .slice none 0 0, .bool false] 169)).grownBy wc none ∧ (namesL dir cps draft segs).length ≤ n)
  case first =>
    go_region_with (go_at_call 24; rw [ba_app]; refine HL.out.mono ?_; rintro e w3 ⟨a, c, l, rfl, hso, hg3, hnm, hln⟩; obtain rfl : l = namesL dir cps draft segs := hnm.uniq HN.out; have HSO : Hid (SRd strE w3 a (namesL dir cps draft segs)) := hso.rd; have HB3 := hso.block; have HG3 : Hid (((w.alloc (.cells #[.slice none 0 0, .slice none 0 0, .bool false] 169)).alloc (.cells #[.slice none 0 0, .slice none 0 0, .bool false] 169)).grownBy w3 none) := (gb_drew (World.grownBy.refl _ _)).trans hg3; clear hso hg3 hnm)
    all_goals (go_wp2; go_meet)
    all_goals refine ⟨a, c, rfl, rfl, rfl, HSO.out, fun y hy => ?_, HG3.out, hln⟩
    all_goals (subst hy; have := HB3 y.block rfl; rw [HS2.out] at this; exact this)
  case rest =>
    obtain ⟨a, c, rfl, rfl, rfl, hrd, hab, hgc, hln⟩ := hcut
    have hNl : (((namesL dir cps draft segs).length : Nat) : Int) ≤ 4194304 := by omega
    have hlt2 : w.heap.size + 1 < wc.heap.size := by
      have h1 := hgc.size
      have h2 : ((w.alloc (.cells #[.slice none 0 0, .slice none 0 0, .bool false] 169)).alloc (.cells #[.slice none 0 0, .slice none 0 0, .bool false] 169)).heap.size = w.heap.size + 2 := HS2.out
      omega
    have HROW : Hid (wc.rowIs (w.heap.size + 1) 169 3 (fun | 0 => .slice none 0 0 | 1 => .slice none 0 0 | _ => .bool false)) := by
      have h2 : ((w.alloc (.cells #[.slice none 0 0, .slice none 0 0, .bool false] 169)).alloc (.cells #[.slice none 0 0, .slice none 0 0, .bool false] 169)).heap.size = w.heap.size + 2 := HS2.out
      exact HRB.out.of_block (hgc.block _ (by omega) (by simp))
    have HRES : Hid (wc.rowIs w.heap.size 169 3 (fun | 0 => .slice none 0 0 | 1 => .slice none 0 0 | _ => .bool false)) := by
      have h2 : ((w.alloc (.cells #[.slice none 0 0, .slice none 0 0, .bool false] 169)).alloc (.cells #[.slice none 0 0, .slice none 0 0, .bool false] 169)).heap.size = w.heap.size + 2 := HS2.out
      exact ((World.rowIs_alloc w #[.slice none 0 0, .slice none 0 0, .bool false] 169 (fun | 0 => .slice none 0 0 | 1 => .slice none 0 0 | _ => .bool false) (three rfl rfl rfl)).alloc _).of_block (hgc.block _ (by omega) (by simp))
    have HPW : Hid (p < w.heap.size) := HW.out.lt
    have HWc : Hid (WRow wc p d dir cp v op) := HW.out.kept (HGB.out.trans hgc) (by simp)
    have HGC : Hid (w.grownBy wc none) := HGB.out.trans hgc
    have HRD : Hid (SRd strE wc a (namesL dir cps draft segs)) := hrd
    have HAB : Hid (∀ y, a = some y → w.heap.size + 2 ≤ y.block ∧ y.block < wc.heap.size) := hab
    obtain ⟨NL, eNL⟩ : ∃ NL, NL = (namesL dir cps draft segs).length := ⟨_, rfl⟩
    rw [← eNL] at hNl
    rw [← eNL]
    have ENL : Hid (NL = (namesL dir cps draft segs).length) := eNL
    clear hrd hab hgc hln eNL HRB HGB HL HUP c0 c1 c0b c1b HN HW hdir
    go_wp2_with fail
    go_loopw [28] (fun t28 wr => ∃ i : Nat, i ≤ NL ∧ t28 = .int .i64 i ∧ LookAt wc wr (w.heap.size + 1) (cps.take i) (stS cps segs draft i) (stD cps draft i)) (fun t28 _ => NL - (intOf t28).toNat)
    case atStart =>
      refine ⟨0, Nat.zero_le _, rfl, ⟨none, 0, none, 0, wc.heap.size, ?_, SOwn.nil 3 _ _, ?_, (fun y hy => by cases hy), Nat.le_refl _, Nat.le_refl _, fun _ => ⟨rfl, rfl⟩⟩, World.grownBy.refl _ _⟩
      · rw [st_zero.1, (st_zero (segs := segs)).2]; exact HROW.out
      · rw [st_zero.1]; exact SOwn.nil 3 _ _
    case round =>
      obtain ⟨i, hi, rfl, hA⟩ := hrel
      obtain ⟨⟨a0, k0, a1, k1, b1, hrow, ho0, ho1, hb0, hb1, hb2, hnil⟩, hgw⟩ := hA
      obtain ⟨L, eL⟩ : ∃ L, L = (cps.take i).length := ⟨_, rfl⟩
      obtain ⟨M, eM⟩ : ∃ M, M = (stS cps segs draft i).length := ⟨_, rfl⟩
      have EL : Hid (L = (cps.take i).length) := eL
      have EM : Hid (M = (stS cps segs draft i).length) := eM
      have hL : L ≤ 4194304 := by rw [eL, List.length_take]; omega
      have hM : M ≤ 4194304 := by rw [eM]; unfold stS; rw [List.length_take]; omega
      rw [← eL] at hrow ho0
      rw [← eM] at hrow ho1
      clear eL eM
      have HWr : Hid (WRow wr p d dir cp v op) := HWc.out.kept hgw (by simp; have := HPW.out; omega)
      have HRow : Hid (wr.rowIs (w.heap.size + 1) 169 3 (fun | 0 => .slice a0 L k0 | 1 => .slice a1 M k1 | _ => .bool (stD cps draft i))) := hrow
      have HO0 : Hid (SOwn intE 3 wr wc.heap.size (.slice a0 L k0) L (nI (cps.take i))) := ho0
      have HO1 : Hid (SOwn intE 3 wr b1 (.slice a1 M k1) M (nI (stS cps segs draft i))) := ho1
      have HB0 : Hid (∀ y, a0 = some y → y.block < b1) := hb0
      have HNIL : Hid (stS cps segs draft i = [] → a1 = none ∧ k1 = 0) := hnil
      have HGW : Hid (wc.grownBy wr (some (w.heap.size + 1))) := hgw
      have HRDr : Hid (SRd strE wr a (namesL dir cps draft segs)) := HRD.out.grown hgw (fun y hy => by have := (HAB.out y hy).1; simp; omega)
      have f0 : wr.cell? ⟨w.heap.size + 1, 0, none⟩ = some (.slice a0 L k0) := hrow.cell (i := 0) (by omega)
      have f1 : wr.cell? ⟨w.heap.size + 1, 1, none⟩ = some (.slice a1 M k1) := hrow.cell (i := 1) (by omega)
      have f2 : wr.cell? ⟨w.heap.size + 1, 2, none⟩ = some (.bool (stD cps draft i)) := hrow.cell (i := 2) (by omega)
      have c1 := HWr.out.cells.2.1
      clear hrow ho0 ho1 hb0 hnil hgw HROW HRD HWc
      by_cases hlt : i < NL
      · have hii : (i : Int) < (NL : Int) := by omega
        have hlt' : i < (namesL dir cps draft segs).length := by rw [← ENL.out]; exact hlt
        obtain ⟨ba, off, rfl, hcc⟩ := HRDr.out.at (by omega)
        rcases names_get dir cps segs draft i hlt' with ⟨k, hk, hs⟩ | ⟨hdr, hic, hs⟩ | ⟨j, k, hk, hij, hs⟩
        · have a0c : wr.cell? ⟨ba, off + i, none⟩ = some (.string (cpN dir k)) := by have h := hcc i _ 0 _ hs rfl; simpa [strE] using h
          obtain ⟨e1, e2, e3, e4⟩ := st_cp (segs := segs) (draft := draft) hk
          have hk8 : k < 100000000 := HCR.out k (List.mem_of_getElem? hk)
          have HY : Hid (Calls Tryz.prog 170 #[.string (cpN dir k), .string (dir ++ ⟨#[47, 99]⟩)] wr fun e w' => e = .returned (.tuple #[.int .i64 (k : Int), .bool true]) ∧ wr.grownBy w' none) := w_numYes _ _ k hk8 (c_cp dir k) wr
          clear hcc hs hlt'
          go_wp2_with fail
          refine HY.out.mono ?_
          rintro e w1 ⟨rfl, hg1⟩
          have HG1 : Hid (wr.grownBy w1 none) := hg1
          have hr1 := HRow.out.of_block (hg1.block _ HRow.out.lt (by simp))
          have f0b : w1.cell? ⟨w.heap.size + 1, 0, none⟩ = some (.slice a0 L k0) := hr1.cell (i := 0) (by omega)
          have hr1a := hr1.alloc (.cells #[.int .i64 (k : Int)] 3)
          have f0c : (w1.alloc (.cells #[.int .i64 (k : Int)] 3)).cell? ⟨w.heap.size + 1, 0, none⟩ = some (.slice a0 L k0) := hr1a.cell (i := 0) (by omega)
          have hwsz : wc.heap.size ≤ w1.heap.size + 1 := by have h1 := HGW.out.size; have h2 := hg1.size; omega
          have HOW : Hid (SOwn intE 3 (w1.alloc (.cells #[.int .i64 (k : Int)] 3)) wc.heap.size (.slice a0 L k0) L (nI (cps.take i))) := SOwn.kept HO0.out (hg1.trans (World.grownBy_alloc w1 _ none)) (by cases a0 <;> simp [Value.ownBlock])
          have HSTEP : Hid (∀ u w3, (w1.alloc (.cells #[.int .i64 (k : Int)] 3)).grownBy w3 (Value.ownBlock (.slice a0 L k0)) → w3.cell? ⟨w.heap.size + 1, 0, none⟩ = some (.slice a0 L k0) ∧ w3.frozen? ⟨w.heap.size + 1, 0, none⟩ = false ∧ (w3.setCell ⟨w.heap.size + 1, 0, none⟩ u).rowIs (w.heap.size + 1) 169 3 (fun j => if j = 0 then u else (fun | 0 => .slice a0 L k0 | 1 => .slice a1 M k1 | _ => .bool (stD cps draft i) : Nat → Value) j) ∧ WRow (w3.setCell ⟨w.heap.size + 1, 0, none⟩ u) p d dir cp v op) := fun u w3 hg3 => look_put HRow.out HWr.out (by have := HPW.out; omega) HG1.out hg3 (ownNe HO0.out hlt2) (ownNe HO0.out (Nat.lt_trans (Nat.lt_succ_of_lt HPW.out) hlt2)) (by omega)
          have HNO := fun w => w_numNo (cpN dir k) (dir ++ ⟨#[47, 115]⟩) (s_cp dir k) w
          have qne : ((cpN dir k).toList == (newN dir).toList) = false := by rw [str_eq]; simp [cp_ne_new]
          clear hr1 hg1 hr1a
          go_wp2_with (at_builtin; refine wpList_append_s intET rfl (.tmp 44) (.tmp 46) rfl wc.heap.size (.slice a0 L k0) L (nI (cps.take i)) rfl HOW.out (some ⟨w1.heap.size, 0, none⟩) [(k : Int)] 1 1 rfl rfl (ilit w1 [(k : Int)]) (by simp) (by omega) (by unfold maxLen; omega) (by rw [show ((w1.alloc (.cells #[.int .i64 (k : Int)] 3)).heap.size) = w1.heap.size + 1 from Array.size_push _]; exact hwsz) ?_; intro v3 w3 ho3 hg3 hn3; obtain ⟨a3, k3, rfl⟩ := sownSl ho3; obtain ⟨y3, z3, hr4, hw4⟩ := HSTEP.out (.slice a3 (L + 1) k3) w3 hg3; have HO3 : Hid (SOwn intE 3 w3 wc.heap.size (.slice a3 (L + 1) k3) (L + 1) (nI (cps.take i) ++ [(k : Int)])) := ho3; have HG3 : Hid ((w1.alloc (.cells #[.int .i64 (k : Int)] 3)).grownBy w3 (Value.ownBlock (.slice a0 L k0))) := hg3; have HR4 : Hid ((w3.setCell ⟨w.heap.size + 1, 0, none⟩ (.slice a3 (L + 1) k3)).rowIs (w.heap.size + 1) 169 3 (fun j => if j = 0 then .slice a3 (L + 1) k3 else (fun | 0 => .slice a0 L k0 | 1 => .slice a1 M k1 | _ => .bool (stD cps draft i) : Nat → Value) j)) := hr4; have HW4 : Hid (WRow (w3.setCell ⟨w.heap.size + 1, 0, none⟩ (.slice a3 (L + 1) k3)) p d dir cp v op) := hw4; have c1d := hw4.cells.2.1; clear ho3 hg3 hn3 hr4 hw4)
          refine (HNO _).mono ?_
          rintro e w5 ⟨rfl, rfl⟩
          go_wp2_with fail
          refine (w_draft p d dir cp v op _ (by omega) HW4.out).mono ?_
          rintro e w5 ⟨rfl, rfl⟩
          go_wp2
          have HLA := look_cp (k := k) (dr := stD cps draft i) hlt2 HGW.out HG1.out HG3.out EL.out HO0.out HO3.out HR4.out rfl (by obtain ⟨h1, h2⟩ := HNIL.out e3; rw [h1, h2, show M = 0 by rw [EM.out, e3]; rfl]; rfl) rfl
          go_roundw
          case rel => exact ⟨i + 1, by omega, by go_num, by rw [e1, e2, e4]; exact HLA⟩
          case measure => simp [intOf]; omega
        · have a0c : wr.cell? ⟨ba, off + i, none⟩ = some (.string (newN dir)) := by have h := hcc i _ 0 _ hs rfl; simpa [strE] using h
          subst hdr
          obtain ⟨e1, e2, e3⟩ := st_new (segs := segs) hic
          have HNO := fun w => w_numNo (newN dir) (dir ++ ⟨#[47, 99]⟩) (c_new dir) w
          have HNO2 := fun w => w_numNo (newN dir) (dir ++ ⟨#[47, 115]⟩) (s_new dir) w
          have qne : ((newN dir).toList == (newN dir).toList) = true := by rw [str_eq]; simp
          have z2 := HRow.out.frozen 2
          clear hcc hs hlt' hic
          go_wp2_with fail
          refine (HNO _).mono ?_
          rintro e w5 ⟨rfl, rfl⟩
          go_wp2_with fail
          refine (HNO2 _).mono ?_
          rintro e w5 ⟨rfl, rfl⟩
          go_wp2_with fail
          refine (w_draft p d dir cp v op _ (by omega) HWr.out).mono ?_
          rintro e w5 ⟨rfl, rfl⟩
          go_wp2
          have HLA := look_new hlt2 HGW.out EL.out EM.out HRow.out HO0.out HO1.out HB0.out hb1 hb2 HNIL.out rfl rfl
          go_roundw
          case rel => exact ⟨i + 1, by omega, by go_num, by rw [e1, e2, e3]; exact HLA⟩
          case measure => simp [intOf]; omega
        · have a0c : wr.cell? ⟨ba, off + i, none⟩ = some (.string (segN dir k)) := by have h := hcc i _ 0 _ hs rfl; simpa [strE] using h
          obtain ⟨e1, e2, e4⟩ := st_seg (cps := cps) (draft := draft) hk hij
          have hk8 : k < 100000000 := HSR.out k (List.mem_of_getElem? hk)
          have hk0 := hpos k (List.mem_of_getElem? hk)
          have HNO := fun w => w_numNo (segN dir k) (dir ++ ⟨#[47, 99]⟩) (c_seg dir k) w
          have HY : Hid (Calls Tryz.prog 170 #[.string (segN dir k), .string (dir ++ ⟨#[47, 115]⟩)] wr fun e w' => e = .returned (.tuple #[.int .i64 (k : Int), .bool true]) ∧ wr.grownBy w' none) := w_numYes _ _ k hk8 (s_seg dir k) wr
          have qgt : decide ((k : Int) > 0) = true := by simp; omega
          have qgt2 : decide ((0 : Int) < (k : Int)) = true := by simp; omega
          clear hcc hs hlt' hij
          go_wp2_with fail
          refine (HNO _).mono ?_
          rintro e w5 ⟨rfl, rfl⟩
          go_wp2_with fail
          refine HY.out.mono ?_
          rintro e w1 ⟨rfl, hg1⟩
          have HG1 : Hid (wr.grownBy w1 none) := hg1
          have hr1 := HRow.out.of_block (hg1.block _ HRow.out.lt (by simp))
          have f0b : w1.cell? ⟨w.heap.size + 1, 1, none⟩ = some (.slice a1 M k1) := hr1.cell (i := 1) (by omega)
          have hr1a := hr1.alloc (.cells #[.int .i64 (k : Int)] 3)
          have f0c : (w1.alloc (.cells #[.int .i64 (k : Int)] 3)).cell? ⟨w.heap.size + 1, 1, none⟩ = some (.slice a1 M k1) := hr1a.cell (i := 1) (by omega)
          have hwsz : b1 ≤ w1.heap.size + 1 := by have h2 := hg1.size; omega
          have HOW : Hid (SOwn intE 3 (w1.alloc (.cells #[.int .i64 (k : Int)] 3)) b1 (.slice a1 M k1) M (nI (stS cps segs draft i))) := SOwn.kept HO1.out (hg1.trans (World.grownBy_alloc w1 _ none)) (by cases a1 <;> simp [Value.ownBlock])
          have HSTEP : Hid (∀ u w3, (w1.alloc (.cells #[.int .i64 (k : Int)] 3)).grownBy w3 (Value.ownBlock (.slice a1 M k1)) → w3.cell? ⟨w.heap.size + 1, 1, none⟩ = some (.slice a1 M k1) ∧ w3.frozen? ⟨w.heap.size + 1, 1, none⟩ = false ∧ (w3.setCell ⟨w.heap.size + 1, 1, none⟩ u).rowIs (w.heap.size + 1) 169 3 (fun j => if j = 1 then u else (fun | 0 => .slice a0 L k0 | 1 => .slice a1 M k1 | _ => .bool (stD cps draft i) : Nat → Value) j) ∧ WRow (w3.setCell ⟨w.heap.size + 1, 1, none⟩ u) p d dir cp v op) := fun u w3 hg3 => look_put HRow.out HWr.out (by have := HPW.out; omega) HG1.out hg3 (ownNe HO1.out (Nat.lt_of_lt_of_le hlt2 hb1)) (ownNe HO1.out (Nat.lt_of_lt_of_le (Nat.lt_trans (Nat.lt_succ_of_lt HPW.out) hlt2) hb1)) (by omega)
          have qne : ((segN dir k).toList == (newN dir).toList) = false := by rw [str_eq]; simp [(new_ne_seg dir k).symm]
          clear hr1 hg1 hr1a
          go_wp2_with (at_builtin; refine wpList_append_s intET rfl (.tmp 65) (.tmp 67) rfl b1 (.slice a1 M k1) M (nI (stS cps segs draft i)) rfl HOW.out (some ⟨w1.heap.size, 0, none⟩) [(k : Int)] 1 1 rfl rfl (ilit w1 [(k : Int)]) (by simp) (by omega) (by unfold maxLen; omega) (by rw [show ((w1.alloc (.cells #[.int .i64 (k : Int)] 3)).heap.size) = w1.heap.size + 1 from Array.size_push _]; exact hwsz) ?_; intro v3 w3 ho3 hg3 hn3; obtain ⟨a3, k3, rfl⟩ := sownSl ho3; obtain ⟨y3, z3, hr4, hw4⟩ := HSTEP.out (.slice a3 (M + 1) k3) w3 hg3; have HO3 : Hid (SOwn intE 3 w3 b1 (.slice a3 (M + 1) k3) (M + 1) (nI (stS cps segs draft i) ++ [(k : Int)])) := ho3; have HG3 : Hid ((w1.alloc (.cells #[.int .i64 (k : Int)] 3)).grownBy w3 (Value.ownBlock (.slice a1 M k1))) := hg3; have HR4 : Hid ((w3.setCell ⟨w.heap.size + 1, 1, none⟩ (.slice a3 (M + 1) k3)).rowIs (w.heap.size + 1) 169 3 (fun j => if j = 1 then .slice a3 (M + 1) k3 else (fun | 0 => .slice a0 L k0 | 1 => .slice a1 M k1 | _ => .bool (stD cps draft i) : Nat → Value) j)) := hr4; have HW4 : Hid (WRow (w3.setCell ⟨w.heap.size + 1, 1, none⟩ (.slice a3 (M + 1) k3)) p d dir cp v op) := hw4; have c1d := hw4.cells.2.1; clear ho3 hg3 hn3 hr4 hw4)
          refine (w_draft p d dir cp v op _ (by omega) HW4.out).mono ?_
          rintro e w5 ⟨rfl, rfl⟩
          go_wp2
          have HLA := look_seg (k := k) (dr := stD cps draft i) hlt2 HGW.out HG1.out HG3.out EL.out EM.out HO0.out HO1.out HB0.out hb1 hb2 HO3.out HR4.out rfl rfl rfl
          go_roundw
          case rel => exact ⟨i + 1, by omega, by go_num, by rw [e1, e2, e4]; exact HLA⟩
          case measure => simp [intOf]; omega
      · have hii : ¬ (i : Int) < (NL : Int) := by omega
        have HEND : Hid (cps.take i = cps ∧ stS cps segs draft i = segs ∧ stD cps draft i = draft) := by
          have hiN : i = (namesL dir cps draft segs).length := by rw [← ENL.out]; omega
          have h := st_end dir cps segs draft
          rw [← hiN] at h
          refine ⟨h.1, h.2.1, h.2.2.trans ?_⟩
          cases draft <;> simp [dl]
          omega
        have hres := HRES.out.of_block (HGW.out.block _ HRES.out.lt (by simp))
        have g0 : wr.cell? ⟨w.heap.size, 0, none⟩ = some (.slice none 0 0) := hres.cell (i := 0) (by omega)
        have g1 : wr.cell? ⟨w.heap.size, 1, none⟩ = some (.slice none 0 0) := hres.cell (i := 1) (by omega)
        have g2 : wr.cell? ⟨w.heap.size, 2, none⟩ = some (.bool false) := hres.cell (i := 2) (by omega)
        have z0 := hres.frozen 0
        have z1 := hres.frozen 1
        have z2 := hres.frozen 2
        have HRS : Hid ((((wr.setCell ⟨w.heap.size, 0, none⟩ (.slice a0 L k0)).setCell ⟨w.heap.size, 1, none⟩ (.slice a1 M k1)).setCell ⟨w.heap.size, 2, none⟩ (.bool (stD cps draft i))).rowIs w.heap.size 169 3 (lookF (.slice a0 L k0) (.slice a1 M k1) (stD cps draft i))) := (((hres.set 0 _).set 1 _).set 2 _).congr (three rfl rfl rfl)
        clear hres
        go_wp2
        refine bodyPost_ret (results_cell Tryz.results149 _ _ _ _ _ rfl (load_folder HRS.out rfl rfl)) rfl ?_
        have hgs : wr.grownBy (((wr.setCell ⟨w.heap.size, 0, none⟩ (.slice a0 L k0)).setCell ⟨w.heap.size, 1, none⟩ (.slice a1 M k1)).setCell ⟨w.heap.size, 2, none⟩ (.bool (stD cps draft i))) (some w.heap.size) := gb_trans (gb_trans (gb_set rfl) (gb_set rfl) (fun k hk => .inr hk)) (gb_set rfl) (fun k hk => .inr hk)
        obtain ⟨e1, e2, e3⟩ := HEND.out
        have eL := EL.out
        have eM := EM.out
        rw [e1] at eL
        rw [e2] at eM
        have ho0 := HO0.out
        have ho1 := HO1.out
        have hnl := HNIL.out
        rw [e1] at ho0
        rw [e2] at ho1 hnl
        rw [e3] at hgs ⊢
        have hwc := HGC.out.size
        have hrs : wc.rowIs w.heap.size 169 3 _ := HRES.out
        subst eL eM
        refine ⟨a0, k0, a1, k1, b1, rfl, ?_, ?_, HB0.out, Nat.le_trans hwc hb1, ?_, hnl⟩
        · exact (SOwn.kept ho0 hgs (.inr (fun e => by have := (ho0.block _ e).1; have := hrs.lt; omega))).base hwc
        · exact SOwn.kept ho1 hgs (.inr (fun e => by have := (ho1.block _ e).1; have := hrs.lt; omega))
        · exact gb_trans (gb_trans HGC.out HGW.out (fun k hk => .inl (by cases hk; omega))) hgs (fun k hk => .inl (by cases hk; omega))
end Go.Proofs.YtgpgkpciajajcaaGreatDoor

