/- Several texts in one: He, Hf, Hg. -/
import Derived.Test.YtpabbmiibehfjaaGreatDoorGf
import Derived.Test.YtpabbmiibehfjaaGreatDoorGg
import Derived.Test.YtpabbmiibehfjaaGreatDoorGh
import Derived.Lib.Overlaps
import Derived.Lib.AppendZerosOnto
import Derived.Laws.CopyOwn
import Derived.Maps.AppendAt
import Derived.Deep.RegionLaw
/- Package head: series in memory; the table's small functions. -/
namespace Go.Proofs.YtpabbmiibehfjaaGreatDoor
open Go.RowKit Go.Maps
set_option linter.unusedVariables false
set_option maxRecDepth 20000

/-- Whatever lies in a block that is not among X has stayed. -/
structure Kept (w w' : World) (X : Nat → Prop) : Prop where
  os : w'.os = w.os
  tape : w'.tape = w.tape
  output : w'.output = w.output
  size : w.heap.size ≤ w'.heap.size
  block : ∀ k, k < w.heap.size → ¬ X k → w'.heap[k]? = w.heap[k]?
theorem Kept.refl (w : World) (X : Nat → Prop) : Kept w w X := ⟨rfl, rfl, rfl, Nat.le_refl _, fun _ _ _ => rfl⟩
theorem Kept.of {w w' : World} {row : Option Nat} {X : Nat → Prop} (h : w.grownBy w' row) (hr : ∀ k, row = some k → X k) : Kept w w' X :=
  ⟨h.os, h.tape, h.output, h.size, fun k hk hx => h.block k hk (fun e => hx (hr k e.symm))⟩
theorem Kept.trans {w w1 w2 : World} {X Y : Nat → Prop} (h : Kept w w1 X) (h' : Kept w1 w2 Y) (hY : ∀ k, k < w.heap.size → Y k → X k) : Kept w w2 X :=
  ⟨h'.os.trans h.os, h'.tape.trans h.tape, h'.output.trans h.output, Nat.le_trans h.size h'.size, fun k hk hx => (h'.block k (Nat.lt_of_lt_of_le hk h.size) (fun y => hx (hY k hk y))).trans (h.block k hk hx)⟩
theorem Kept.mono {w w1 : World} {X Y : Nat → Prop} (h : Kept w w1 X) (hY : ∀ k, k < w.heap.size → X k → Y k) : Kept w w1 Y :=
  ⟨h.os, h.tape, h.output, h.size, fun k hk hx => h.block k hk (fun x => hx (hY k hk x))⟩
theorem Kept.grown {w w' : World} {X : Nat → Prop} (h : Kept w w' X) (hX : ∀ k, k < w.heap.size → ¬ X k) : w.grownBy w' none :=
  ⟨h.os, h.tape, h.output, h.size, fun k hk _ => h.block k hk (hX k hk)⟩
theorem Kept.grown1 {w w' : World} {b : Nat} (h : Kept w w' (fun k => k = b)) : w.grownBy w' (some b) :=
  ⟨h.os, h.tape, h.output, h.size, fun k hk hne => h.block k hk (fun e => hne (by rw [e]))⟩
/-- From one world to another: what is not among B has stayed, and what is among B' and was there before was among B. -/
def Step (w w' : World) (B B' : Nat → Prop) : Prop := Kept w w' B ∧ ∀ k, k < w.heap.size → B' k → B k
theorem Step.trans {w w1 w2 : World} {B B1 B2 : Nat → Prop} (h : Step w w1 B B1) (h' : Step w1 w2 B1 B2) : Step w w2 B B2 :=
  ⟨h.1.trans h'.1 (fun k hk hb => h.2 k hk hb), fun k hk hb => h.2 k hk (h'.2 k (Nat.lt_of_lt_of_le hk h.1.size) hb)⟩
theorem Step.grown {w w' : World} (B : Nat → Prop) (h : w.grownBy w' none) : Step w w' B B := ⟨Kept.of h (fun k hk => by cases hk), fun k _ hb => hb⟩
theorem row_ne {w : World} {b b' : Nat} {t t' : TypeId} {n n' : Nat} {f f' : Nat → Value} (h : w.rowIs b t n f) (h' : w.rowIs b' t' n' f') (ht : t ≠ t') : b ≠ b' := by
  rintro rfl
  obtain ⟨c, h1, _⟩ := h
  obtain ⟨c', h2, _⟩ := h'
  rw [h1] at h2
  simp only [Option.some.injEq, Obj.cells.injEq] at h2
  exact ht h2.2.1
/-- What type of row lies in a block. -/
def Typed (w : World) (b : Nat) (t : TypeId) : Prop := ∃ c, w.heap[b]? = some (.cells c t (0, 0))
def IsMap (w : World) (b : Nat) : Prop := ∃ es c, w.heap[b]? = some (.map es c)
theorem Typed.ne {w : World} {b b' : Nat} {t t' : TypeId} (h : Typed w b t) (h' : Typed w b' t') (ht : t ≠ t') : b ≠ b' := by
  rintro rfl
  obtain ⟨c, h1⟩ := h
  obtain ⟨c', h2⟩ := h'
  rw [h1] at h2
  simp only [Option.some.injEq, Obj.cells.injEq] at h2
  exact ht h2.2.1
theorem Typed.map {w : World} {b b' : Nat} {t : TypeId} (h : Typed w b t) (h' : IsMap w b') : b ≠ b' := by
  rintro rfl
  obtain ⟨c, h1⟩ := h
  obtain ⟨c', d, h2⟩ := h'
  rw [h1] at h2
  cases h2
theorem rowIs_typed {w : World} {b : Nat} {t : TypeId} {n : Nat} {f : Nat → Value} (h : w.rowIs b t n f) : Typed w b t := by
  obtain ⟨c, h1, _⟩ := h
  exact ⟨c, h1⟩
theorem sown_typed {α : Type} {E : Elem α} {e : TypeId} {w : World} {base n c : Nat} {x : Addr} {l : List α} (h : SOwn E e w base (.slice (some x) n c) n l) : Typed w x.block e := by
  rcases h.2 with ⟨h', _⟩ | ⟨g, cap, cur, h', _, h2, _⟩
  · simp at h'
  · simp only [Value.slice.injEq, Option.some.injEq] at h'
    obtain ⟨rfl, _⟩ := h'
    exact ⟨cur, h2⟩
theorem sown_stay {α : Type} {E : Elem α} {e : TypeId} {w w' : World} {base n c : Nat} {a : Option Addr} {l : List α} (h : SOwn E e w base (.slice a n c) n l) (hb : ∀ x, a = some x → w'.heap[x.block]? = w.heap[x.block]?) : SOwn E e w' base (.slice a n c) n l := by
  refine ⟨h.1, ?_⟩
  rcases h.2 with h' | ⟨g, cap, cur, h', h3, h4, h5⟩
  · exact .inl h'
  · refine .inr ⟨g, cap, cur, h', h3, ?_, h5⟩
    have hx : a = some ⟨g, 0, none⟩ := by simp only [Value.slice.injEq] at h'; exact h'.1
    have := hb _ hx
    simp only at this
    rw [this, h4]
theorem sown_cap {α : Type} {E : Elem α} {e : TypeId} {w : World} {base n c : Nat} {a : Option Addr} {l : List α} (h : SOwn E e w base (.slice a n c) n l) : n ≤ c ∧ (a = none → c = 0) := by
  rcases h.2 with ⟨h', h0⟩ | ⟨g, cap, cur, h', h1, h2, h3, h4, _⟩
  · simp only [Value.slice.injEq] at h'
    exact ⟨by omega, fun _ => h'.2.2⟩
  · simp only [Value.slice.injEq] at h'
    obtain ⟨rfl, _, rfl⟩ := h'
    exact ⟨h3, fun e => by cases e⟩
theorem srd_stay {α : Type} {E : Elem α} {w w' : World} {a : Option Addr} {l : List α} (h : SRd E w a l) (hb : ∀ x, a = some x → w'.heap[x.block]? = w.heap[x.block]?) : SRd E w' a l := by
  rcases h with h | ⟨b, off, e, h⟩
  · exact .inl h
  · refine .inr ⟨b, off, e, fun j v hj => ?_⟩
    have := h j v hj
    have hh := hb _ e
    simp only at hh
    simpa [World.cell?, hh] using this

theorem sown_lit {α : Type} (E : Elem α) (e : TypeId) (w : World) (l : List α) (h : l.length ≤ maxLen) : SOwn E e (w.alloc (.cells (E.flat l).toArray e)) w.heap.size (.slice (some ⟨w.heap.size, 0, none⟩) l.length l.length) l.length l := by
  refine ⟨E.flat_len l, .inr ⟨w.heap.size, l.length, (E.flat l).toArray, rfl, Nat.le_refl _, heap_alloc_new w _, Nat.le_refl _, h, ?_, ?_⟩⟩
  · rw [List.size_toArray, E.flat_len]
  · rw [← E.flat_len]; exact List.take_length
/-- A series, as it lies in memory: its struct in block p. -/
structure Ent where
  p : Nat
  la : Option Addr
  lc : Nat
  ls : List Lab
  pa : Option Addr
  pc : Nat
  ps : List Pt
def SerF (a b : Value) : Nat → Value
  | 0 => a
  | _ => b
structure EntIs (w : World) (base : Nat) (e : Ent) : Prop where
  row : w.rowIs e.p 49 2 (SerF (.slice e.la e.ls.length e.lc) (.slice e.pa e.ps.length e.pc))
  lab : SOwn labE 62 w base (.slice e.la e.ls.length e.lc) e.ls.length e.ls
  pts : SOwn pntE 51 w base (.slice e.pa e.ps.length e.pc) e.ps.length e.ps
  ge : base ≤ e.p
theorem EntIs.stay {w w' : World} {base : Nat} {e : Ent} (h : EntIs w base e) (h1 : w'.heap[e.p]? = w.heap[e.p]?) (h2 : ∀ x, e.la = some x → w'.heap[x.block]? = w.heap[x.block]?) (h3 : ∀ x, e.pa = some x → w'.heap[x.block]? = w.heap[x.block]?) : EntIs w' base e :=
  ⟨h.row.of_block h1, sown_stay h.lab h2, sown_stay h.pts h3, h.ge⟩
theorem EntIs.lt {w : World} {base : Nat} {e : Ent} (h : EntIs w base e) : e.p < w.heap.size ∧ (∀ x, e.la = some x → base ≤ x.block ∧ x.block < w.heap.size) ∧ ∀ x, e.pa = some x → base ≤ x.block ∧ x.block < w.heap.size :=
  ⟨h.row.lt, fun x hx => SOwn.block h.lab x.block (by rw [hx]; rfl), fun x hx => SOwn.block h.pts x.block (by rw [hx]; rfl)⟩
theorem EntIs.kept {w w' : World} {base : Nat} {e : Ent} (h : EntIs w base e) (hg : w.grownBy w' none) : EntIs w' base e :=
  h.stay (hg.block _ h.lt.1 (by simp)) (fun x hx => hg.block _ (h.lt.2.1 x hx).2 (by simp)) (fun x hx => hg.block _ (h.lt.2.2 x hx).2 (by simp))
theorem EntIs.cells {w : World} {base : Nat} {e : Ent} (h : EntIs w base e) : w.cell? ⟨e.p, 0, none⟩ = some (.slice e.la e.ls.length e.lc) ∧ w.cell? ⟨e.p, 1, none⟩ = some (.slice e.pa e.ps.length e.pc) := ⟨h.row.cell (i := 0) (by omega), h.row.cell (i := 1) (by omega)⟩

/-- Where a set stands in the map. -/
def keyS (ls : List Lab) : ByteArray := strOfNums (encR ls)
theorem encR_byte (ls : List Lab) : ∀ z ∈ encR ls, 0 ≤ z ∧ z ≤ 255 := by
  intro z hz
  unfold encR at hz
  rcases List.mem_append.1 hz with h | h
  · exact enc_byte _ z h
  · obtain ⟨p, _, h⟩ := List.mem_flatMap.1 h
    unfold encL at h
    simp only [List.mem_append] at h
    rcases h with ((h | h) | h) | h
    · exact enc_byte _ z h
    · exact sInts_byte _ z h
    · exact enc_byte _ z h
    · exact sInts_byte _ z h
theorem keyS_inj {a b : List Lab} (ha : checkR a = 0) (hb : checkR b = 0) (h : keyS a = keyS b) : a = b :=
  enc_inj ha hb (strOfNums_inj (encR_byte a) (encR_byte b) (by unfold keyS at h; rw [h]))
theorem keyS_size {ls : List Lab} (h : checkR ls = 0) : (keyS ls).size ≤ maxLen := by
  have h1 := enc_size h
  have : (keyS ls).size = (encR ls).length := by
    unfold keyS strOfNums
    show (List.toArray _).size = _
    simp
  unfold maxLen
  omega
theorem ok_len {ls : List Lab} (h : checkR ls = 0) : ls.length ≤ 16 := ((check_iff ls).1 h).1
theorem ok_okK {ls : List Lab} (h : checkR ls = 0) : ∀ l ∈ ls, okK l ∧ l ≠ (⟨#[]⟩, ⟨#[]⟩) := by
  intro l hl
  obtain ⟨b0, b1, b2⟩ := ok_size (((check_iff ls).1 h).2.1 l hl)
  refine ⟨⟨by unfold maxLen; omega, by unfold maxLen; omega⟩, fun e => ?_⟩
  rw [e] at b0
  exact absurd b0 (by decide)
theorem ok_nodup {ls : List Lab} (h : checkR ls = 0) : ls.Nodup := by
  refine ((check_iff ls).1 h).2.2.imp (fun {a b} hab e => ?_)
  subst e
  exact lt_ne hab rfl

theorem h_key (a : Option Addr) (L c : Nat) (ls : List Lab) (w : World) (hr : SRd labE w a ls) (hL : ls.length = L) (hok : checkR ls = 0) :
    Calls Tryz.prog 64 #[.slice a L c] w fun e w' => e = .returned (.string (keyS ls)) ∧ w.grownBy w' none := by
  have hsz := enc_size hok
  have hl := ok_len hok
  have HE := f_encode a ls L c _ w hr hL (by omega) (by omega) rfl
  unfold keyS
  generalize encR ls = Y at HE ⊢
  clear hr hL hok hsz hl
  go_enter Tryz.func64, Tryz.ntmps64
  go_wp2_with fail
  refine HE.mono ?_
  rintro e w1 ⟨g, cc, M, rfl, ho, hg⟩
  have hcv := conv_rd w1 (some ⟨g, 0, none⟩) Y M cc ho.rd ho.len
  have HG : Hid (w.grownBy w1 none) := hg
  clear ho hg HE
  go_wp2
  go_ret
  exact ⟨rfl, HG.out⟩
def noLab : Lab := (⟨#[]⟩, ⟨#[]⟩)
theorem h_posts (a : Option Addr) (L c : Nat) (ls : List Lab) (w : World) (hr : SRd labE w a ls) (hL : ls.length = L) (hz : L ≤ 4398046511000) (hnil : a = none → c = 0) :
    Calls Tryz.prog 65 #[.slice a L c] w fun e w' => ∃ g c', e = .returned (.slice (some ⟨g, 0, none⟩) (L + 1) c') ∧ SOwn labE 62 w' w.heap.size (.slice (some ⟨g, 0, none⟩) (L + 1) c') (L + 1) (noLab :: ls) ∧ w.grownBy w' none := by
  have HR : Hid (SRd labE w a ls) := hr
  have HL : Hid (ls.length = L) := hL
  have HN : Hid (a = none → c = 0) := hnil
  have HO : Hid (SOwn labE 62 (w.alloc (.cells #[.string ⟨#[]⟩, .string ⟨#[]⟩] 62)) w.heap.size (.slice (some ⟨w.heap.size, 0, none⟩) 1 1) 1 [noLab]) := by
    exact sown_lit labE 62 w [noLab] (by unfold maxLen; simp)
  clear hr hL hnil
  go_enter Tryz.func65, Tryz.ntmps65
  go_wp2_with (at_builtin; refine wpList_append_s labT rfl (.tmp 4) (.tmp 5) rfl w.heap.size (.slice (some ⟨w.heap.size, 0, none⟩) 1 1) 1 [noLab] rfl HO.out a ls L c rfl HL.out (HR.out.grown (World.grownBy_alloc w _ none) (by simp)) HN.out (by omega) (by unfold maxLen; omega) (World.grownBy_alloc w _ none).size ?_; intro v1 w1 ho1 hg1 hn1)
  go_ret
  obtain ⟨g, c', rfl, _⟩ := SOwn.some ho1 (fun e => by simpa using (hn1 e).1)
  rw [Nat.add_comm 1 L] at ho1 ⊢
  exact ⟨g, c', rfl, ho1, gb_trans (World.grownBy_alloc w _ none) hg1 (fun i hi => .inl (by simp [Value.ownBlock] at hi; omega))⟩
theorem h_empty (base : Nat) (e : Ent) (w : World) (h : EntIs w base e) :
    Calls Tryz.prog 68 #[.pointer (some ⟨e.p, 0, none⟩)] w fun r w' => r = .returned (.bool (decide (e.ps = []))) ∧ w = w' := by
  obtain ⟨c0, c1⟩ := h.cells
  have hd : decide (e.ps = []) = decide (((e.ps.length : Nat) : Int) = 0) := by
    rw [Bool.eq_iff_iff]
    simp
  rw [hd]
  generalize e.ps.length = n at c1 ⊢
  clear h hd
  go_enter Tryz.func68, Tryz.ntmps68
  go_wp2
  go_ret
  exact ⟨rfl, rfl⟩
theorem h_byLabels (base : Nat) (e f : Ent) (w : World) (he : EntIs w base e) (hf : EntIs w base f) (h1 : e.ls.length ≤ 16) (h2 : f.ls.length ≤ 16) :
    Calls Tryz.prog 78 #[.pointer (some ⟨e.p, 0, none⟩), .pointer (some ⟨f.p, 0, none⟩)] w fun r w' => r = .returned (.int .i64 (cmpR e.ls f.ls)) ∧ w.grownBy w' none := by
  obtain ⟨c0, _⟩ := he.cells
  obtain ⟨d0, _⟩ := hf.cells
  have hgd : w.grownBy w.drew none := gb_drew (World.grownBy.refl _ _)
  have HC : Hid (Calls Tryz.prog 90 #[.slice e.la e.ls.length e.lc, .slice f.la f.ls.length f.lc] w.drew fun r w' => r = .returned (.int .i64 (cmpR e.ls f.ls)) ∧ w.drew.grownBy w' none) := f_compare e.la f.la e.ls f.ls _ _ e.lc f.lc _ w.drew (he.lab.rd.grown hgd (by simp)) (hf.lab.rd.grown hgd (by simp)) rfl rfl (by omega) (by omega) rfl
  have HGD : Hid (w.grownBy w.drew none) := hgd
  generalize cmpR e.ls f.ls = R at HC ⊢
  generalize e.p = p at c0 ⊢
  generalize f.p = q at d0 ⊢
  generalize e.la = x1 at c0 HC
  generalize e.lc = x2 at c0 HC
  generalize e.ls.length = x3 at c0 HC
  generalize f.la = y1 at d0 HC
  generalize f.lc = y2 at d0 HC
  generalize f.ls.length = y3 at d0 HC
  clear he hf h1 h2 hgd
  go_enter Tryz.func78, Tryz.ntmps78
  go_wp2
  go_region_held3 (fun W => W.cell? ⟨p, 0, none⟩ = some (.slice x1 x3 x2) ∧ W.cell? ⟨q, 0, none⟩ = some (.slice y1 y3 y2)) (go_keep) (first
    | (go_at_call 90; refine HC.out.mono ?_; rintro e w1 ⟨rfl, hg1⟩; have c0' := hg1.cell c0 (by simp); have d0' := hg1.cell d0 (by simp); have HG1 : Hid (w.grownBy w1 none) := HGD.out.trans hg1; clear hg1))
  all_goals go_wp2
  all_goals go_ret
  all_goals exact ⟨rfl, HG1.out⟩
end Go.Proofs.YtpabbmiibehfjaaGreatDoor

/- Package head: where a series stands in a posting. -/
namespace Go.Proofs.YtpabbmiibehfjaaGreatDoor
open Go.RowKit Go.Maps
set_option linter.unusedVariables false
set_option maxRecDepth 20000

theorem ptr_cell {w : World} {a : Option Addr} {l : List Nat} {i p : Nat} (hr : SRd ptsE w a l) (hi : l[i]? = some p) : ∃ b off, a = some ⟨b, off, none⟩ ∧ w.cell? ⟨b, off + i, none⟩ = some (.pointer (some ⟨p, 0, none⟩)) := by
  have hl := (List.getElem?_eq_some_iff.1 hi).1
  obtain ⟨b, off, e, h⟩ := hr.at (by omega)
  refine ⟨b, off, e, ?_⟩
  have := h i p 0 _ hi rfl
  simpa [ptsE] using this
set_option maxHeartbeats 2000000 in
theorem l_bsearch (base : Nat) (es : List Ent) (f : Ent) (a : Option Addr) (n c : Nat) (w : World) (hr : SRd ptsE w a (es.map (·.p))) (hn : es.length = n) (hz : n ≤ 4194304) (he : ∀ e ∈ es, EntIs w base e ∧ e.ls.length ≤ 16) (hf : EntIs w base f) (hf2 : f.ls.length ≤ 16) (hs : Sets (es.map (·.ls))) :
    Calls Tryz.prog 77 #[.slice a n c, .pointer (some ⟨f.p, 0, none⟩), .func (.func 78) #[] #[]] w fun e w' => ∃ b, e = .returned (.tuple #[.int .i64 (insAt (es.map (·.ls)) f.ls), .bool b]) ∧ w.grownBy w' none := by
  have HR : Hid (SRd ptsE w a (es.map (·.p))) := hr
  have HN : Hid (es.length = n) := hn
  have HE : Hid (∀ (i : Nat) (e : Ent) (w1 : World), es[i]? = some e → w.grownBy w1 none → Calls Tryz.prog 78 #[.pointer (some ⟨e.p, 0, none⟩), .pointer (some ⟨f.p, 0, none⟩)] w1 fun r w' => r = .returned (.int .i64 (cmpR e.ls f.ls)) ∧ w1.grownBy w' none) := fun i e w1 hi hg => by
    have hm := he e (List.mem_of_getElem? hi)
    exact h_byLabels base e f w1 (hm.1.kept hg) (hf.kept hg) hm.2 hf2
  have HMO : Hid (∀ i j : Nat, i ≤ j → ∀ x y : Ent, es[i]? = some x → es[j]? = some y → cmpR y.ls f.ls < 0 → cmpR x.ls f.ls < 0) := fun i j hij x y hx hy hc => sets_mono hs f.ls i j hij x.ls y.ls (by rw [List.getElem?_map, hx]; rfl) (by rw [List.getElem?_map, hy]; rfl) hc
  have HI : Hid (∀ k, k ≤ n → (∀ i e, es[i]? = some e → i < k → cmpR e.ls f.ls < 0) → (∀ i e, es[i]? = some e → k ≤ i → 0 ≤ cmpR e.ls f.ls) → insAt (es.map (·.ls)) f.ls = k) := fun k hk h1 h2 => by
    unfold insAt
    refine countP_place _ _ k (by rw [List.length_map]; omega) (fun i x hx => ?_)
    rw [List.getElem?_map, Option.map_eq_some_iff] at hx
    obtain ⟨e, he, rfl⟩ := hx
    constructor
    · intro h
      by_cases hki : i < k
      · exact hki
      · have h3 := h2 i e he (by omega)
        have h4 : cmpR e.ls f.ls < 0 := by simpa using h
        omega
    · intro h
      simpa using h1 i e he h
  generalize insAt (es.map (·.ls)) f.ls = I at HI ⊢
  obtain ⟨q, eq⟩ : ∃ q, q = f.p := ⟨_, rfl⟩
  rw [← eq] at HE ⊢
  clear hr hn he hf hf2 hs eq
  go_enter Tryz.func77, Tryz.ntmps77
  go_wp2
  go_loopw [9, 10] (fun i j wr => ∃ x y : Nat, i = .int .i64 x ∧ j = .int .i64 y ∧ x ≤ y ∧ y ≤ n ∧ (∀ k e, es[k]? = some e → k < x → cmpR e.ls f.ls < 0) ∧ (∀ k e, es[k]? = some e → y ≤ k → 0 ≤ cmpR e.ls f.ls) ∧ w.grownBy wr none) (fun i j _ => (intOf j).toNat - (intOf i).toNat)
  case atStart => exact ⟨0, n, rfl, rfl, Nat.zero_le _, Nat.le_refl _, fun k e _ h => by omega, fun k e h1 h => by have := (List.getElem?_eq_some_iff.1 h1).1; have := HN.out; omega, World.grownBy.refl _ _⟩
  case round =>
    obtain ⟨x, y, rfl, rfl, hxy, hyn, hlo, hhi, hg⟩ := hrel
    have HLO : Hid (∀ k e, es[k]? = some e → k < x → cmpR e.ls f.ls < 0) := hlo
    have HHI : Hid (∀ k e, es[k]? = some e → y ≤ k → 0 ≤ cmpR e.ls f.ls) := hhi
    have HG : Hid (w.grownBy wr none) := hg
    clear hlo hhi hg
    by_cases hlt : x < y
    · obtain ⟨m, hmm⟩ : ∃ m, m = (x + y) / 2 := ⟨_, rfl⟩
      have hm1 : x ≤ m := by omega
      have hm2 : m < y := by omega
      have hi : (x : Int) < (y : Int) := by omega
      have hnl := HN.out
      obtain ⟨e, hem⟩ : ∃ e, es[m]? = some e := ⟨_, List.getElem?_eq_getElem (by omega)⟩
      obtain ⟨b, off, rfl, hc⟩ := ptr_cell (i := m) (p := e.p) (HR.out.grown HG.out (by simp)) (by rw [List.getElem?_map, hem]; rfl)
      have hEM : ((x : Int) + (y : Int)) / 2 = (m : Int) := by omega
      have hmn : (m : Int) < (n : Int) := by omega
      have HEM : Hid (es[m]? = some e) := hem
      have HC := HE.out m e wr hem HG.out
      clear hmm hem hnl
      go_wp2_with fail
      refine HC.mono ?_
      rintro r w1 ⟨rfl, hg1⟩
      have HG1 : Hid (w.grownBy w1 none) := HG.out.trans hg1
      clear hg1
      by_cases hp : cmpR e.ls f.ls < 0
      · have hd : decide (cmpR e.ls f.ls < 0) = true := by simpa using hp
        have HP : Hid (cmpR e.ls f.ls < 0) := hp
        generalize cmpR e.ls f.ls = z at hd hp ⊢
        go_wp2
        go_roundw
        case rel => exact ⟨m + 1, y, by go_num, rfl, by omega, hyn, fun k e' h1 h2 => HMO.out k m (by omega) e' e h1 HEM.out HP.out, HHI.out, HG1.out⟩
        case measure => simp [intOf]; omega
      · have hd : decide (cmpR e.ls f.ls < 0) = false := by simpa using hp
        have HP : Hid (0 ≤ cmpR e.ls f.ls) := by show _ ≤ _; omega
        generalize cmpR e.ls f.ls = z at hd hp ⊢
        go_wp2
        go_roundw
        case rel => exact ⟨x, m, rfl, rfl, hm1, by omega, HLO.out, fun k e' h1 h2 => by
          by_cases h3 : cmpR e'.ls f.ls < 0
          · exact absurd (HMO.out m k h2 e e' HEM.out h1 h3) (by have := HP.out; omega)
          · omega, HG1.out⟩
        case measure => simp [intOf]; omega
    · have hi : ¬ (x : Int) < (y : Int) := by omega
      obtain rfl : x = y := by omega
      obtain rfl : I = x := HI.out x hyn HLO.out HHI.out
      by_cases hxn : I < n
      · have hxi : (I : Int) < (n : Int) := by omega
        have hnl := HN.out
        obtain ⟨e, hem⟩ : ∃ e, es[I]? = some e := ⟨_, List.getElem?_eq_getElem (by omega)⟩
        obtain ⟨b, off, rfl, hc⟩ := ptr_cell (i := I) (p := e.p) (HR.out.grown HG.out (by simp)) (by rw [List.getElem?_map, hem]; rfl)
        have HC := HE.out I e wr hem HG.out
        clear hem hnl
        go_wp2_with fail
        refine HC.mono ?_
        rintro r w1 ⟨rfl, hg1⟩
        have HG1 : Hid (w.grownBy w1 none) := HG.out.trans hg1
        clear hg1
        generalize cmpR e.ls f.ls = z
        go_wp2
        go_ret2
        exact ⟨_, rfl, HG1.out⟩
      · have hxi : ¬ (I : Int) < (n : Int) := by omega
        go_wp2
        go_ret2
        exact ⟨.inl rfl, HG.out⟩
end Go.Proofs.YtpabbmiibehfjaaGreatDoor

/- slices.Insert of one pointer, as package head uses it. -/
namespace Go.Proofs.YtpabbmiibehfjaaGreatDoor
open Go.RowKit
set_option linter.unusedVariables false
set_option maxRecDepth 20000

theorem elem75 : Tryz.prog.elem 75 = 77 := by simp [Program.elem, Tryz.underlying75]
/-- One pointer in a row of its own. -/
def Pair (w : World) (g : Nat) (x : Nat) : Prop := w.heap[g]? = some (.cells #[.pointer (some ⟨x, 0, none⟩)] 77 (0, 0))
theorem Pair.lt {w : World} {g x : Nat} (h : Pair w g x) : g < w.heap.size := (Array.getElem?_eq_some_iff.1 h).1
theorem Pair.f0 {w : World} {g x : Nat} (h : Pair w g x) : w.frozen? ⟨g, 0, none⟩ = false := by unfold Pair at h; simp [World.frozen?, h]
theorem Pair.srd {w : World} {g x : Nat} (h : Pair w g x) : SRd ptsE w (some ⟨g, 0, none⟩) [x] := by
  refine .inr ⟨g, 0, rfl, fun j v hj => ?_⟩
  rw [Nat.zero_add, cell_of_row w g j _ 77 _ h]
  simpa [Elem.flat, ptsE] using hj
theorem wpList_append_at {α : Type} {E : Elem α} {P : Program} {t e : TypeId} {bytes : Nat} (T : ElemOf E P t e bytes) {w : World} {ops : Array Oper} {rest : List Oper} {o : Oper} {a : Act} {Q : Exit → Act → World → Prop} (hgd : o.guard = none) (s x : Operand)
    (ho : o.op = .call { callee := .builtin .append, args := #[s, x], argTypes := #[t, t] }) (base : Nat) (v : Value) (n : Nat) (xs : List α) (hs : a.eval s = v) (hown : SOwn E e w base v n xs)
    (ad : Addr) (zs : List α) (m cap : Nat) (hx : a.eval x = .slice (some ad) m cap) (hm : zs.length = m) (hr : SRd E w (some ad) zs) (hlen : (n + m) * bytes ≤ 140737488355328) (hmax : n + m ≤ maxLen) (hb : base ≤ w.heap.size)
    (h : ∀ v' w', SOwn E e w' base v' (n + m) (xs ++ zs) → w.grownBy w' v.ownBlock → (v' = .slice Option.none 0 0 → v = .slice Option.none 0 0 ∧ m = 0) → (v'.ownBlock = v.ownBlock ∨ v'.ownBlock = some w.heap.size) → wpList P ops Q rest (a.put o.dst v') w') : wpList P ops Q (o :: rest) a w := by
  obtain ⟨i0, z, hi, hz0, hz1, hz2, hz3⟩ := T.info
  subst hm
  refine wpList_append_own_at _ hgd s x t ho base e i0 z E.size bytes T.under hi hz0 hz1 hz2 hz3 E.pos _ n (E.flat xs) hs hown ad zs.length cap (E.flat zs) hx (E.flat_len zs) hr.news (E.flat_one zs) hmax hlen hb ?_
  intro v' w' hown' hg hne hl
  rw [← E.flat_app] at hown'
  exact h v' w' hown' hg (fun h => hne.1 h) hl
theorem gb_drewR {w w' : World} {row : Option Nat} (h : w.grownBy w' row) (n : Nat) : w.grownBy (w'.drewN n) row := ⟨h.os, h.tape, h.output, h.size, h.block⟩
theorem sown_formP {α : Type} {E : Elem α} {e : TypeId} {w : World} {base n : Nat} {v : Value} {ls : List α} (h : SOwn E e w base v n ls) : ∃ a c, v = .slice a n c ∧ (a = none → c = 0) ∧ n ≤ c ∧ c ≤ maxLen ∧ (∀ x, a = some x → base ≤ x.block ∧ x.off = 0 ∧ x.spot = none) := by
  rcases h.2 with ⟨h', h0⟩ | ⟨g, cap, cur, h', h1, h2, h3, h4, _⟩
  · subst h0
    exact ⟨none, 0, h', fun _ => rfl, Nat.le_refl _, Nat.zero_le _, by simp⟩
  · exact ⟨_, cap, h', by simp, h3, h4, fun x hx => by cases hx; exact ⟨h1, rfl, rfl⟩⟩
theorem run_copy2 (w : World) (ty : TypeId) (g off dLen dCap : Nat) (ad : Addr) (sLen sCap n : Nat) (cur cs : List Value) (hg : w.heap[g]? = some (.cells cur.toArray 77 (0, 0))) (hn : Nat.min sLen dLen = n) (hcs : cs.length = n)
    (hsrc : ∀ j v, cs[j]? = some v → w.cell? (ad.add j) = some v) (hfit : off + cs.length ≤ cur.length) (h1 : ∀ v ∈ cs, v.oneCell' = true) :
    (Builtin.copy_ #[75, 75] ty #[.slice (some ⟨g, off, none⟩) dLen dCap, .slice (some ad) sLen sCap]).run Tryz.prog w = .ok (goInt n) (w.setRow g (splice cur off cs).toArray) := by
  obtain ⟨i0, hi, hz0, hz1, hz2⟩ := info_parts info77
  have hl := run_loadCells_list (P := Tryz.prog) w ad cs hsrc
  rw [hcs] at hl
  have hst := run_storeCells_at (P := Tryz.prog) g off 77 cs 0 cur.toArray w hg (by simpa using hfit) h1
  simp only [Nat.add_zero, List.append_assoc] at hst
  simp [Builtin.copy_, run_underlying Tryz.underlying75, Builtin.lenOf, Builtin.firstCells, sizeOf, typeInfo, hi, hz1, hn, hl, hst, splice]
theorem gb_row (w : World) (g : Nat) (cs : Array Value) : w.grownBy (w.setRow g cs) (some g) := gb_setRow w g cs
theorem wpList_copy2 {w : World} {ops : Array Oper} {rest : List Oper} {o : Oper} {a : Act} {Q : Exit → Act → World → Prop} (hgd : o.guard = none) (d s : Operand)
    (ho : o.op = .call { callee := .builtin .copy, args := #[d, s], argTypes := #[75, 75] }) (g off dLen dCap : Nat) (ad : Addr) (sLen sCap n : Nat) (cur cs : List Value)
    (hd : a.eval d = .slice (some ⟨g, off, none⟩) dLen dCap) (hs : a.eval s = .slice (some ad) sLen sCap) (hg : w.heap[g]? = some (.cells cur.toArray 77 (0, 0))) (hn : Nat.min sLen dLen = n) (hcs : cs.length = n)
    (hsrc : ∀ j v, cs[j]? = some v → w.cell? (ad.add j) = some v) (hfit : off + cs.length ≤ cur.length) (h1 : ∀ v ∈ cs, v.oneCell' = true)
    (h : ∀ w', Hid (w'.heap[g]? = some (.cells (splice cur off cs).toArray 77 (0, 0))) → Hid (w.grownBy w' (some g)) → wpList Tryz.prog ops Q rest (a.put o.dst (goInt n)) w') : wpList Tryz.prog ops Q (o :: rest) a w := by
  refine wpList_plain hgd fun K hK => ?_
  have hrun := run_copy2 w o.type g off dLen dCap ad sLen sCap n cur cs hg hn hcs hsrc hfit h1
  unfold Oper.wp
  simp [execOp, ho, resolve, invoke, builtin, hd, hs, hrun, Result.andThen]
  exact hK _ _ (h _ (setRow_heap w g _ _ 77 _ hg) (gb_row w g _))
theorem step_copy2 {w : World} {ops : Array Oper} {o : Oper} {a : Act} {K : Act → World → Prop} {Q : Exit → Act → World → Prop} {E : Prop} (hgd : o.guard = none) (d s : Operand)
    (ho : o.op = .call { callee := .builtin .copy, args := #[d, s], argTypes := #[75, 75] }) (g off dLen dCap : Nat) (ad : Addr) (sLen sCap n : Nat) (cur cs : List Value)
    (hd : a.eval d = .slice (some ⟨g, off, none⟩) dLen dCap) (hs : a.eval s = .slice (some ad) sLen sCap) (hg : w.heap[g]? = some (.cells cur.toArray 77 (0, 0))) (hn : Nat.min sLen dLen = n) (hcs : cs.length = n)
    (hsrc : ∀ j v, cs[j]? = some v → w.cell? (ad.add j) = some v) (hfit : off + cs.length ≤ cur.length) (h1 : ∀ v ∈ cs, v.oneCell' = true)
    (h : ∀ w', Hid (w'.heap[g]? = some (.cells (splice cur off cs).toArray 77 (0, 0))) → Hid (w.grownBy w' (some g)) → K (a.put o.dst (goInt n)) w') : if Region.wanted o (yielded ops a.tmps) = true then Oper.wp Tryz.prog o a w K Q else E := by
  have hw : Region.wanted o (yielded ops a.tmps) = true := by simp [Region.wanted, hgd]
  rw [if_pos hw]
  have hrun := run_copy2 w o.type g off dLen dCap ad sLen sCap n cur cs hg hn hcs hsrc hfit h1
  unfold Oper.wp
  simp [execOp, ho, resolve, invoke, builtin, hd, hs, hrun, Result.andThen]
  exact h _ (setRow_heap w g _ _ 77 _ hg) (gb_row w g _)

theorem cut_low (g n c k : Nat) (hk : k ≤ n) (hn : n ≤ c) (hc : k < c) (w : World) : (Instr.slice 75 (.slice (some ⟨g, 0, none⟩) n c) (some (.int .i64 (k : Int))) none none).run Tryz.prog w = .ok (.slice (some ⟨g, k, none⟩) (n - k) (c - k)) w := by
  rw [run_slice_l w 75 _ n c (by rw [elem75]; exact Tryz.underlying75) .i64 (k : Int) (by omega) (by omega), elem75, size77]
  have h0 : ¬ c = k := by omega
  by_cases h1 : k = 0
  · subst h1; simp [Result.andThen, sliced, h0, Addr.add]
  · simp [Result.andThen, sliced, h0, Addr.add, h1]
theorem cut_high (g n c k : Nat) (hk : k ≤ c) (w : World) : (Instr.slice 75 (.slice (some ⟨g, 0, none⟩) n c) none (some (.int .i64 (k : Int))) none).run Tryz.prog w = .ok (.slice (some ⟨g, 0, none⟩) k c) w := by
  rw [run_slice_h w 75 _ n c (by rw [elem75]; exact Tryz.underlying75) .i64 (k : Int) (by omega) (by omega), elem75, size77]
  simp [Result.andThen, sliced, Addr.add]

theorem splice_in (cur D : List Value) (i m : Nat) (x : Value) (hD : D.length = m) (hl : i + 1 + m ≤ cur.length) :
    (splice (splice cur ((i + 1)) D) (i) [x]).take ((i + 1 + m)) = cur.take (i) ++ [x] ++ D ∧ (splice (splice cur ((i + 1)) D) (i) [x]).length = cur.length := by
  have e1 : (splice cur ((i + 1)) D).length = cur.length := length_splice _ _ _ (by omega)
  refine ⟨?_, by rw [length_splice _ _ _ (by rw [e1]; simp; omega), e1]⟩
  unfold splice
  have t1 : (cur.take ((i + 1))).length = (i + 1) := by rw [List.length_take]; omega
  have a1 : (cur.take ((i + 1)) ++ (D ++ cur.drop ((i + 1) + D.length))).take (i) = cur.take (i) := by
    rw [List.take_append_of_le_length (by omega), List.take_take, Nat.min_eq_left (by omega)]
  have a2 : (cur.take ((i + 1)) ++ (D ++ cur.drop ((i + 1) + D.length))).drop (i + [x].length) = D ++ cur.drop ((i + 1) + D.length) := by
    rw [show i + [x].length = (cur.take ((i + 1))).length by rw [t1]; simp, List.drop_left]
  rw [a1, a2]
  have t2 : (cur.take (i) ++ [x] ++ D).length = (i + 1 + m) := by
    rw [List.length_append, List.length_append, List.length_take, hD]
    simp
    omega
  rw [show cur.take (i) ++ ([x] ++ (D ++ cur.drop ((i + 1) + D.length))) = (cur.take (i) ++ [x] ++ D) ++ cur.drop ((i + 1) + D.length) by simp, ← t2, List.take_left]
theorem splice_out (row D : List Value) (i m : Nat) (x : Value) (hD : D.length = m) (hl : i + 1 + m ≤ row.length) :
    (splice (splice row (i) [x]) ((i + 1)) D).take ((i + 1 + m)) = row.take (i) ++ [x] ++ D ∧ (splice (splice row (i) [x]) ((i + 1)) D).length = row.length := by
  have e1 : (splice row (i) [x]).length = row.length := length_splice _ _ _ (by simp; omega)
  refine ⟨?_, by rw [length_splice _ _ _ (by rw [e1]; omega), e1]⟩
  unfold splice
  have t1 : (row.take (i) ++ [x]).length = (i + 1) := by rw [List.length_append, List.length_take]; simp; first | done | omega
  have a1 : (row.take (i) ++ ([x] ++ row.drop (i + [x].length))).take ((i + 1)) = row.take (i) ++ [x] := by
    rw [← List.append_assoc, ← t1, List.take_left]
  rw [a1]
  generalize (row.take (i) ++ ([x] ++ row.drop (i + [x].length))).drop ((i + 1) + D.length) = Z
  have t2 : (row.take (i) ++ [x] ++ D).length = (i + 1 + m) := by rw [List.length_append, t1, hD]
  rw [show row.take (i) ++ [x] ++ (D ++ Z) = (row.take (i) ++ [x] ++ D) ++ Z by simp, ← t2, List.take_left]
theorem flat_ins (xs : List Nat) (i : Nat) (x : Nat) : ptsE.flat (xs.take i ++ [x] ++ xs.drop i) = ptsE.flat (xs.take i) ++ [.pointer (some ⟨x, 0, none⟩)] ++ ptsE.flat (xs.drop i) := by
  rw [ptsE.flat_app, ptsE.flat_app]; rfl

/-- What is known of a row that is read as labels. -/
structure Held (w : World) (g n c : Nat) (xs : List Nat) (cur : List Value) : Prop where
  row : w.heap[g]? = some (.cells cur.toArray 77 (0, 0))
  len : cur.length = c
  head : cur.take (n) = ptsE.flat xs
  num : xs.length = n
theorem Held.grown {w w' : World} {row : Option Nat} {g n c : Nat} {xs : List Nat} {cur : List Value} (h : Held w g n c xs cur) (hg : w.grownBy w' row) (hne : some g ≠ row) : Held w' g n c xs cur :=
  ⟨(hg.block g (Array.getElem?_eq_some_iff.1 h.row).1 hne).trans h.row, h.len, h.head, h.num⟩
theorem Held.tail {w : World} {g n c : Nat} {xs : List Nat} {cur : List Value} (h : Held w g n c xs cur) (i : Nat) (hi : i ≤ n) (hc : n ≤ c) : (ptsE.flat (xs.drop i)).length = (n - i) ∧ ∀ j v, (ptsE.flat (xs.drop i))[j]? = some v → w.cell? ((⟨g, i, none⟩ : Addr).add j) = some v := by
  have hd : (ptsE.flat (xs.drop i)).length = (n - i) := by rw [ptsE.flat_len, List.length_drop, h.num]; exact Nat.mul_one _
  refine ⟨hd, fun j v hj => ?_⟩
  have hj1 : j < (n - i) := by rw [← hd]; exact (List.getElem?_eq_some_iff.1 hj).1
  have ht : (ptsE.flat (xs.take i)).length = i := by
    rw [ptsE.flat_len, List.length_take, h.num, Nat.min_eq_left hi]; exact Nat.mul_one _
  rw [Addr.add_lit, cell_of_row w g _ _ _ _ h.row]
  have e : ptsE.flat xs = ptsE.flat (xs.take i) ++ ptsE.flat (xs.drop i) := by rw [← ptsE.flat_app, List.take_append_drop]
  have e2 : (ptsE.flat xs)[i + j]? = some v := by
    rw [e, List.getElem?_append_right (by omega), ht, show i + j - i = j by omega]
    exact hj
  rw [← h.head, List.getElem?_take] at e2
  rw [if_pos (by omega)] at e2
  simpa using e2
theorem Held.first {w : World} {g n c : Nat} {xs : List Nat} {cur : List Value} (h : Held w g n c xs cur) (i : Nat) (hi : i ≤ n) : cur.take (i) = ptsE.flat (xs.take i) := by
  have e : (ptsE.flat xs).take (i) = ptsE.flat (xs.take i) := by rw [ptsE.flat_take, show i * ptsE.size = i from Nat.mul_one _]
  rw [← e, ← h.head, List.take_take, Nat.min_eq_left (by omega)]
theorem Pair.news {w : World} {vb : Nat} {x : Nat} (h : Pair w vb x) : ∀ j v, [Value.pointer (some ⟨x, 0, none⟩)][j]? = some v → w.cell? ((⟨vb, 0, none⟩ : Addr).add j) = some v := by
  intro j v hj
  rw [Addr.add_lit, Nat.zero_add, cell_of_row w vb j _ _ _ h]
  simpa using hj
theorem Pair.kept {w w' : World} {row : Option Nat} {vb : Nat} {x : Nat} (h : Pair w vb x) (hg : w.grownBy w' row) (hne : some vb ≠ row) : Pair w' vb x := (hg.block vb h.lt hne).trans h
theorem one_one (x : Nat) : ∀ v ∈ [Value.pointer (some ⟨x, 0, none⟩)], v.oneCell' = true := by
  intro v hv
  simp only [List.mem_cons, List.mem_nil_iff, or_false] at hv
  subst hv; rfl

set_option maxHeartbeats 2000000 in
theorem ins_shift (g n c i vb : Nat) (xs : List Nat) (cur : List Value) (x : Nat) (w : World) (h : Held w g n c xs cur) (hp : Pair w vb x) (hne : vb ≠ g) (hi : i < n) (hroom : n + 1 ≤ c) (hcm : c ≤ 9223372036854775807) :
    Calls Tryz.prog 79 #[.slice (some ⟨g, 0, none⟩) n c, .int .i64 i, .slice (some ⟨vb, 0, none⟩) 1 1] w fun e w' => e = .returned (.slice (some ⟨g, 0, none⟩) (n + 1) c) ∧ (∃ cur', Held w' g (n + 1) c (xs.take i ++ [x] ++ xs.drop i) cur') ∧ w.grownBy w' (some g) := by
  have HH : Hid (Held w g n c xs cur) := h
  have HP : Hid (Pair w vb x) := hp
  have HNE : Hid (vb ≠ g) := hne
  have hs1 : ∀ w, (Instr.slice 75 (.slice (some ⟨g, 0, none⟩) n c) (some (.int .i64 (i : Int))) none none).run Tryz.prog w = .ok (.slice (some ⟨g, i, none⟩) (n - i) (c - i)) w := cut_low g n c i (by omega) (by omega) (by omega)
  have hs2 : ∀ w, (Instr.slice 75 (.slice (some ⟨g, 0, none⟩) n c) none (some (.int .i64 ((n : Int) + 1))) none).run Tryz.prog w = .ok (.slice (some ⟨g, 0, none⟩) (n + 1) c) w := cut_high g n c (n + 1) (by omega)
  have hs3 : ∀ w, (Instr.slice 75 (.slice (some ⟨g, 0, none⟩) (n + 1) c) (some (.int .i64 ((i : Int) + 1))) none none).run Tryz.prog w = .ok (.slice (some ⟨g, (i + 1), none⟩) (n - i) (c - (i + 1))) w := fun w => by
    have k := cut_low g (n + 1) c (i + 1) (by omega) (by omega) (by omega) w
    rw [show n + 1 - (i + 1) = n - i by omega] at k
    exact k
  have hs4 : ∀ w, (Instr.slice 75 (.slice (some ⟨g, 0, none⟩) (n + 1) c) (some (.int .i64 (i : Int))) none none).run Tryz.prog w = .ok (.slice (some ⟨g, i, none⟩) (n + 1 - i) (c - i)) w := cut_low g (n + 1) c i (by omega) (by omega) (by omega)
  have hov : ∀ lb cb, (callFunc 91 #[.slice (some ⟨vb, 0, none⟩) 1 1, .slice (some ⟨g, (i + 1), none⟩) lb cb]).run Tryz.prog w = .ok (.value (.bool false)) w := fun lb cb => by
    rw [run_callFunc_extern Tryz.func91 (by kernel_rfl) (by kernel_rfl) (by kernel_rfl) (e := Extern.SlicesOverlaps.overlaps #[75, 75] #[4]) (by kernel_rfl),
      Lib.run_overlaps_apart w 75 4 77 Tryz.underlying75 1 size77 ⟨vb, 0, none⟩ ⟨g, (i + 1), none⟩ 1 1 lb cb hne 77 77 1 c (by have k := hp; unfold Pair at k; simp [World.shape?, k]) (by have k := h.row; simp [World.shape?, k, h.len]) (by omega) hp.f0 (by have k := hp; unfold Pair at k; simp [World.frozen?, k])]
    rfl
  have HT := h.tail i (by omega) (by omega)
  have HL : Hid (cur.length = c) := h.len
  obtain ⟨D, hD⟩ : ∃ D, D = ptsE.flat (xs.drop i) := ⟨_, rfl⟩
  rw [← hD] at HT
  have HDE : Hid (D = ptsE.flat (xs.drop i)) := hD
  have HD1 : Hid (∀ v ∈ D, v.oneCell' = true) := by rw [hD]; exact ptsE.flat_one _
  have HD2 : Hid (D.length = (n - i)) := HT.1
  have HD3 : Hid (∀ j v, D[j]? = some v → w.drew.cell? ((⟨g, i, none⟩ : Addr).add j) = some v) := HT.2
  have HR : Hid (w.drew.heap[g]? = some (.cells cur.toArray 77 (0, 0))) := h.row
  have q1 : ((i : Int) == (n : Int)) = false := by simp; omega
  have q2 : decide ((c : Int) < (n : Int) + 1) = false := by simp; omega
  have b1 : (n : Int) + 1 ≤ 9223372036854775807 := by omega
  have b2 : (i : Int) + 1 ≤ 9223372036854775807 := by omega
  have hw1 : IntKind.i64.wrap ((i : Int) + 1) = (i : Int) + 1 := by rw [IntKind.wrap_i64]; omega
  clear hD HT h hp hne
  go_enter Tryz.func79, Tryz.ntmps79
  go_wp2_with (simp only [hov])
  go_region_law (refine step_copy2 rfl (.tmp 73) (.tmp 76) rfl g ((i + 1)) (n - i) (c - (i + 1)) ⟨g, i, none⟩ (n + 1 - i) (c - i) (n - i) cur D (by simp [Act.eval, Act.put]) (by simp [Act.eval, Act.put]) HR.out (by simp only [Nat.min_def]; split <;> omega) HD2.out HD3.out (by rw [HD2.out, HL.out]; omega) HD1.out ?_; intro w1 hr1 hg1)
  all_goals
    have HP1 : Hid (Pair w1 vb x) := Pair.kept (w := w.drew) HP.out hg1.out (fun e => HNE.out (Option.some.inj e))
    have HL1 : Hid ((splice cur ((i + 1)) D).length = c) := by show _ = _; rw [length_splice _ _ _ (by rw [HD2.out, HL.out]; omega), HL.out]
    go_wp2_with (refine wpList_copy2 rfl (.tmp 80) (.tmp 81) rfl g (i) (n + 1 - i) (c - i) ⟨vb, 0, none⟩ 1 1 1 (splice cur ((i + 1)) D) [.pointer (some ⟨x, 0, none⟩)] rfl rfl hr1.out (by simp only [Nat.min_def]; split <;> omega) rfl HP1.out.news (by rw [HL1.out]; simp; omega) (one_one x) ?_; intro w2 hr2 hg2)
    go_ret
    refine ⟨rfl, ⟨_, hr2.out, ?_, ?_, ?_⟩, ?_⟩
    · rw [(splice_in cur D i (n - i) _ HD2.out (by rw [HL.out]; omega)).2, HL.out]
    · rw [show (n + 1) = (i + 1 + (n - i)) by omega, (splice_in cur D i (n - i) _ HD2.out (by rw [HL.out]; omega)).1, flat_ins, HH.out.first i (by omega), HDE.out]
    · have hn := HH.out.num
      simp only [List.length_append, List.length_take, List.length_drop, List.length_cons, List.length_nil]
      omega
    · exact gb_trans (gb_trans (gb_any (gb_drewN w 1) _) hg1.out (fun k hk => .inr hk)) hg2.out (fun k hk => .inr hk)

set_option maxRecDepth 100000 in
set_option maxHeartbeats 2000000 in
theorem ins_grow (g n i vb : Nat) (xs : List Nat) (cur : List Value) (x : Nat) (w : World) (h : Held w g n n xs cur) (hp : Pair w vb x) (hi : i < n) (hn : n ≤ 4398046511000) :
    Calls Tryz.prog 79 #[.slice (some ⟨g, 0, none⟩) n n, .int .i64 i, .slice (some ⟨vb, 0, none⟩) 1 1] w fun e w' => ∃ G, e = .returned (.slice (some ⟨w.heap.size, 0, none⟩) (n + 1) G) ∧ n + 1 ≤ G ∧ G ≤ maxLen ∧ (∃ cur', Held w' w.heap.size (n + 1) G (xs.take i ++ [x] ++ xs.drop i) cur') ∧ w.grownBy w' none := by
  have HH : Hid (Held w g n n xs cur) := h
  have HP : Hid (Pair w vb x) := hp
  have hs1 : ∀ w, (Instr.slice 75 (.slice (some ⟨g, 0, none⟩) n n) (some (.int .i64 (i : Int))) none none).run Tryz.prog w = .ok (.slice (some ⟨g, i, none⟩) (n - i) (n - i)) w := cut_low g n n i (by omega) (by omega) (by omega)
  have hs2 : ∀ w, (Instr.slice 75 (.slice (some ⟨g, 0, none⟩) n n) none (some (.int .i64 (i : Int))) none).run Tryz.prog w = .ok (.slice (some ⟨g, 0, none⟩) i n) w := cut_high g n n i (by omega)
  have HGl : Hid (g < w.heap.size) := (Array.getElem?_eq_some_iff.1 h.row).1
  have HVl : Hid (vb < w.heap.size) := hp.lt
  have HT := h.tail i (by omega) (by omega)
  obtain ⟨D, hD⟩ : ∃ D, D = ptsE.flat (xs.drop i) := ⟨_, rfl⟩
  rw [← hD] at HT
  have HDE : Hid (D = ptsE.flat (xs.drop i)) := hD
  have HD1 : Hid (∀ v ∈ D, v.oneCell' = true) := by rw [hD]; exact ptsE.flat_one _
  have HD2 : Hid (D.length = (n - i)) := HT.1
  have HD3 : Hid (∀ w' : World, w'.heap[g]? = w.heap[g]? → ∀ j v, D[j]? = some v → w'.cell? ((⟨g, i, none⟩ : Addr).add j) = some v) := by
    intro w' hw j v hj
    have := HT.2 j v hj
    rw [Addr.add_lit] at this ⊢
    rw [World.cell?_of_block (w := w) hw]
    exact this
  have q1 : ((i : Int) == (n : Int)) = false := by simp; omega
  have q2 : decide ((n : Int) < (n : Int) + 1) = true := by simp; omega
  have b1 : (n : Int) + 1 ≤ 9223372036854775807 := by omega
  have hkk : (n : Int) + 1 - (i : Int) = ((n + 1 - i : Nat) : Int) := by omega
  obtain ⟨i0, hi0, hz0, hz1, hz2⟩ := info_parts info77
  have hold : (Builtin.firstCells i0.size i (.slice (some ⟨g, 0, none⟩) i n)).run Tryz.prog w.drew = .ok (ptsE.flat (xs.take i)).toArray w.drew := by
    rw [hz1]
    refine run_firstCells_some w.drew 1 i ⟨g, 0, none⟩ i n (ptsE.flat (xs.take i)) (by rw [ptsE.flat_len, List.length_take, h.num, Nat.min_eq_left (by omega)]; rfl) (fun j v hj => ?_)
    rw [Addr.add_lit, Nat.zero_add]
    show w.cell? _ = _
    rw [cell_of_row w g _ _ _ _ h.row]
    rw [← h.first i (by omega), List.getElem?_take] at hj
    split at hj
    · simpa using hj
    · cases hj
  have hik : i + (n + 1 - i) = n + 1 := by omega
  obtain ⟨G, hG⟩ : ∃ G, G = grownCap w (n + 1) n 77 := ⟨_, rfl⟩
  obtain ⟨ROW, hROW⟩ : ∃ ROW : List Value, ROW = ((ptsE.flat (xs.take i)).toArray ++ Builtin.zeroCells (Value.pointer none).cells (n + 1 - i) ++ Builtin.zeroCells (Value.pointer none).cells (G - (n + 1))).toList := ⟨_, rfl⟩
  have HZ : Hid (∀ ty, (Builtin.append_ #[75, 3] ty #[.slice (some ⟨g, 0, none⟩) i n, .int .i64 ((n : Int) + 1 - (i : Int))]).run Tryz.prog w = .ok (.slice (some ⟨w.heap.size, 0, none⟩) (n + 1) G) (w.drew.alloc (.cells ROW.toArray 77))) := fun ty => by
    have k := Lib.run_append_grow_zeros w 75 3 ty 77 i0 _ .i64 .i64 Tryz.underlying75 Tryz.underlying3 hi0 hz0 (some ⟨g, 0, none⟩) i n (ptsE.flat (xs.take i)) hold (n + 1 - i) (by omega) (by omega) (by omega) (by omega) (by rw [hz2]; omega) (by rw [hz2, hik]; exact growslice_fits (by omega) (by omega))
    rw [hik, ← hG] at k
    rw [hkk, hROW, Array.toArray_toList]
    exact k
  have HGn : Hid (n + 1 ≤ G ∧ G ≤ maxLen) := by
    rw [hG]
    exact ⟨grownCap_ge w _ _ _, grownCap_le_maxLen w (n + 1) n 77 (by unfold maxLen; omega)⟩
  have hzc : ∀ m, (Builtin.zeroCells (Value.pointer none).cells m).size = m := by
    intro m
    simp [Builtin.zeroCells, Value.cells]
  have HRl : Hid (ROW.length = G ∧ ROW.take (i) = ptsE.flat (xs.take i)) := by
    have hfl : (ptsE.flat (xs.take i)).length = i := by rw [ptsE.flat_len, List.length_take, h.num, Nat.min_eq_left (by omega)]; exact Nat.mul_one _
    have hg1 := HGn.out.1
    refine ⟨?_, ?_⟩
    · rw [hROW]
      simp only [Array.length_toList, Array.size_append, hzc, List.size_toArray, hfl]
      omega
    · rw [hROW]
      simp only [Array.toList_append, List.append_assoc]
      rw [List.take_append_of_le_length (by omega), List.take_of_length_le (by omega)]
  have hGm : (G : Int) ≤ 9223372036854775807 := by have := HGn.out.2; unfold maxLen at this; omega
  have hGn1 : n + 1 ≤ G := HGn.out.1
  have hs3 : ∀ w', (Instr.slice 75 (.slice (some ⟨w.heap.size, 0, none⟩) (n + 1) G) (some (.int .i64 (i : Int))) none none).run Tryz.prog w' = .ok (.slice (some ⟨w.heap.size, i, none⟩) (n + 1 - i) (G - i)) w' := cut_low _ (n + 1) G i (by omega) (by omega) (by omega)
  have hs4 : ∀ w', (Instr.slice 75 (.slice (some ⟨w.heap.size, 0, none⟩) (n + 1) G) (some (.int .i64 ((i : Int) + 1))) none none).run Tryz.prog w' = .ok (.slice (some ⟨w.heap.size, (i + 1), none⟩) (n - i) (G - (i + 1))) w' := fun w' => by
    have k := cut_low w.heap.size (n + 1) G (i + 1) (by omega) (by omega) (by omega) w'
    rw [show n + 1 - (i + 1) = n - i by omega] at k
    exact k
  have hw1 : IntKind.i64.wrap ((i : Int) + 1) = (i : Int) + 1 := by rw [IntKind.wrap_i64]; omega
  have b2 : (i : Int) + 1 ≤ 9223372036854775807 := by omega
  have HWA : Hid ((w.drew.alloc (.cells ROW.toArray 77)).heap[w.heap.size]? = some (.cells ROW.toArray 77 (0, 0)) ∧ w.grownBy (w.drew.alloc (.cells ROW.toArray 77)) none) := ⟨heap_alloc_new w.drew _, (gb_drewN w 1).trans (World.grownBy_alloc w.drew _ none)⟩
  obtain ⟨wa, ewa⟩ : ∃ wa, wa = w.drew.alloc (.cells ROW.toArray 77) := ⟨_, rfl⟩
  rw [← ewa] at HWA HZ
  clear ewa hD HT h hp hROW hG hold hik hkk hzc
  obtain ⟨N, hN⟩ : ∃ N, N = w.heap.size := ⟨_, rfl⟩
  have HN : Hid (N = w.heap.size) := hN
  rw [← hN] at hs3 hs4 HGl HVl HWA HZ ⊢
  clear hN
  have HPa : Hid (Pair wa vb x) := Pair.kept HP.out HWA.out.2 (by simp)
  have HRa : Hid (wa.heap[N]? = some (.cells ROW.toArray 77 (0, 0))) := HWA.out.1
  go_enter Tryz.func79, Tryz.ntmps79
  go_wp2_with (first | (at_builtin; refine Lib.wpList_append_run _ rfl (.tmp 34) (.tmp 39) 75 3 rfl _ _ rfl rfl _ _ (HZ.out _) ?_) | (refine wpList_copy2 rfl (.tmp 43) (.tmp 44) rfl N (i) (n + 1 - i) (G - i) ⟨vb, 0, none⟩ 1 1 1 ROW [.pointer (some ⟨x, 0, none⟩)] rfl rfl HRa.out (by simp only [Nat.min_def]; split <;> omega) rfl HPa.out.news (by rw [HRl.out.1]; simp; omega) (one_one x) ?_; intro w2 hr2 hg2))
  have HR2 : Hid (w2.drew.heap[N]? = some (.cells (splice ROW (i) [.pointer (some ⟨x, 0, none⟩)]).toArray 77 (0, 0))) := hr2.out
  have HL2 : Hid ((splice ROW (i) [Value.pointer (some ⟨x, 0, none⟩)]).length = G) := by show _ = _; rw [length_splice _ _ _ (by rw [HRl.out.1]; simp; omega), HRl.out.1]
  have HS2 : Hid (w2.drew.heap[g]? = w.heap[g]?) := by
    show w2.heap[g]? = w.heap[g]?
    have hgl := HGl.out
    rw [hg2.out.block g (by have := HWA.out.2.size; have := HN.out; omega) (fun e => by have := Option.some.inj e; omega), HWA.out.2.block g (by have := HN.out; omega) (by simp)]
  go_region_law (refine step_copy2 rfl (.tmp 50) (.tmp 53) rfl N ((i + 1)) (n - i) (G - (i + 1)) ⟨g, i, none⟩ (n - i) (n - i) (n - i) (splice ROW (i) [.pointer (some ⟨x, 0, none⟩)]) D (by simp [Act.eval, Act.put]) (by simp [Act.eval, Act.put]) HR2.out (by simp) HD2.out (HD3.out _ HS2.out) (by rw [HD2.out, HL2.out]; omega) HD1.out ?_; intro w3 hr3 hg3)
  all_goals
    go_wp2
    go_ret
    refine ⟨G, rfl, HGn.out.1, HGn.out.2, ⟨_, hr3.out, ?_, ?_, ?_⟩, ?_⟩
    · rw [(splice_out ROW D i (n - i) _ HD2.out (by rw [HRl.out.1]; omega)).2, HRl.out.1]
    · rw [show (n + 1) = (i + 1 + (n - i)) by omega, (splice_out ROW D i (n - i) _ HD2.out (by rw [HRl.out.1]; omega)).1, flat_ins, HRl.out.2, HDE.out]
    · have hn := HH.out.num
      simp only [List.length_append, List.length_take, List.length_drop, List.length_cons, List.length_nil]
      omega
    · have hNN := HN.out
      exact gb_trans (gb_trans HWA.out.2 (gb_drewR hg2.out 1) (fun k hk => .inl (by cases hk; omega))) hg3.out (fun k hk => .inl (by cases hk; omega))
theorem Held.own {w : World} {base g n c : Nat} {xs : List Nat} {cur : List Value} (h : Held w g n c xs cur) (hb : base ≤ g) (hc : n ≤ c) (hm : c ≤ maxLen) : SOwn ptsE 77 w base (.slice (some ⟨g, 0, none⟩) n c) n xs :=
  ⟨by rw [ptsE.flat_len, h.num], .inr ⟨g, c, _, rfl, hb, h.row, hc, hm, by show _ = c * 1; rw [Nat.mul_one]; simpa using h.len, by show List.take (n * 1) _ = _; rw [Nat.mul_one]; simpa using h.head⟩⟩

set_option maxHeartbeats 1000000 in
theorem ins_end (v : Value) (n base vb : Nat) (xs : List Nat) (x : Nat) (w : World) (ho : SOwn ptsE 77 w base v n xs) (hp : Pair w vb x) (hn : n ≤ 4398046511000) (hb : base ≤ w.heap.size) :
    Calls Tryz.prog 79 #[v, .int .i64 n, .slice (some ⟨vb, 0, none⟩) 1 1] w fun e w' => ∃ v', e = .returned v' ∧ SOwn ptsE 77 w' base v' (n + 1) (xs ++ [x]) ∧ w.grownBy w' v.ownBlock ∧ v' ≠ .slice none 0 0 ∧ (v'.ownBlock = v.ownBlock ∨ v'.ownBlock = some w.heap.size) := by
  obtain ⟨a, c, rfl, hnil, hnc, hcm, hsp⟩ := sown_formP ho
  have hs1 := fun w => sl75 a n c n (Nat.le_refl _) w
  have HO : Hid (SOwn ptsE 77 w base (.slice a n c) n xs) := ho
  have HP : Hid (Pair w vb x) := hp
  have HBS : Hid (base ≤ w.heap.size) := hb
  have q1 : ((n : Int) == (n : Int)) = true := by simp
  clear ho hp hb hnil hsp
  go_enter Tryz.func79, Tryz.ntmps79
  go_wp2_with (at_builtin; refine wpList_append_at ptsT rfl (.tmp 23) (.tmp 24) rfl base _ n xs rfl HO.out ⟨vb, 0, none⟩ [x] 1 1 rfl rfl HP.out.srd (by omega) (by unfold maxLen; omega) HBS.out ?_; intro v2 w2 ho2 hg2 hn2 hl2)
  go_ret
  exact ⟨v2, rfl, ho2, hg2, fun e => by simpa using (hn2 e).2, hl2⟩
theorem g_insert (v : Value) (n base vb k : Nat) (xs : List Nat) (x : Nat) (w : World) (ho : SOwn ptsE 77 w base v n xs) (hp : Pair w vb x) (hv : v.ownBlock ≠ some vb) (hk : k ≤ n) (hn : n ≤ 4398046511000) (hb : base ≤ w.heap.size) :
    Calls Tryz.prog 79 #[v, .int .i64 k, .slice (some ⟨vb, 0, none⟩) 1 1] w fun e w' => ∃ g c, e = .returned (.slice (some ⟨g, 0, none⟩) (n + 1) c) ∧ SOwn ptsE 77 w' base (.slice (some ⟨g, 0, none⟩) (n + 1) c) (n + 1) (xs.take k ++ [x] ++ xs.drop k) ∧ w.grownBy w' v.ownBlock ∧ (some g = v.ownBlock ∨ w.heap.size ≤ g) := by
  have hlen := SOwn.len ho
  by_cases h : k = n
  · subst h
    rw [List.take_of_length_le (by omega), List.drop_eq_nil_of_le (by omega), List.append_nil]
    refine (ins_end v k base vb xs x w ho hp hn hb).mono ?_
    rintro e w' ⟨v', rfl, h1, h2, h3, h4⟩
    obtain ⟨g, c, rfl, _⟩ := SOwn.some h1 h3
    refine ⟨g, c, rfl, h1, h2, ?_⟩
    rcases h4 with h4 | h4
    · exact .inl h4
    · right
      have : g = w.heap.size := by simpa [Value.ownBlock] using h4
      omega
  · rcases ho.2 with ⟨_, h0⟩ | ⟨g, c, cur, rfl, hbg, hg, hnc, hcm, hcs, hct⟩
    · omega
    · have hh : Held w g n c xs cur.toList := ⟨by simpa using hg, by simpa [ptsE] using hcs, by have := hct; rw [show n * ptsE.size = n from Nat.mul_one _] at this; exact this, hlen⟩
      have hne : vb ≠ g := fun e => hv (by rw [e]; rfl)
      by_cases hr : n + 1 ≤ c
      · refine (ins_shift g n c k vb xs _ x w hh hp hne (by omega) hr (by unfold maxLen at hcm; omega)).mono ?_
        rintro e w' ⟨rfl, ⟨cur', h'⟩, hg'⟩
        exact ⟨_, _, rfl, h'.own hbg hr hcm, hg', .inl rfl⟩
      · obtain rfl : c = n := by omega
        refine (ins_grow g c k vb xs _ x w hh hp (by omega) hn).mono ?_
        rintro e w' ⟨G, rfl, h1, h2, ⟨cur', h'⟩, hg'⟩
        exact ⟨_, _, rfl, h'.own hb h1 h2, gb_any hg' _, .inr (Nat.le_refl _)⟩
end Go.Proofs.YtpabbmiibehfjaaGreatDoor

