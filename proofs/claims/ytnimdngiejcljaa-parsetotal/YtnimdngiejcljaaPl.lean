/- Package parse: names in brackets. -/
import Derived.Test.YtnimdngiejcljaaPi
import Derived.Test.YtnimdngiejcljaaPk
namespace Go.Proofs.Ytnimdngiejcljaa
open Go.RowKit
set_option linter.unusedVariables false
set_option linter.unusedSimpArgs false
set_option maxRecDepth 20000

/-- A list that is being made, in a box; the reader in another one. -/
structure AccAt {α : Type} (E : Elem α) (e t : TypeId) (w0 : World) (box rbox b p : Nat) (K : Tk) (op : Int) (v : Value) (L : List Row) (xs : List α) (k : Nat) (w : World) : Prop where
  rd : RdAt w b p K k op v L
  fr : Fr (Me p) w0 w
  ex : ∃ sl : Sl, w.heap[box]? = some (.cells #[slV sl] t (0, 0)) ∧ SOwn E e w (box + 1) (slV sl) xs.length xs
  rb : w.heap[rbox]? = some (.cells #[.pointer (some ⟨p, 0, none⟩)] 46 (0, 0))
  lo : w0.heap.size ≤ rbox ∧ rbox < box
  old : ∃ k0 op0, RdAt w0 b p K k0 op0 v L
theorem one_cell {w : World} {g : Nat} {x : Value} {t : TypeId} (h : w.heap[g]? = some (.cells #[x] t (0, 0))) : w.cell? ⟨g, 0, none⟩ = some x := by rw [cell_of_row _ _ _ _ _ _ h]; rfl
theorem one_set {w : World} {g : Nat} {x : Value} {t : TypeId} (h : w.heap[g]? = some (.cells #[x] t (0, 0))) (y : Value) : (w.setCell ⟨g, 0, none⟩ y).heap[g]? = some (.cells #[y] t (0, 0)) := by
  simp [World.setCell, Array.getElem?_modify, h]
theorem AccAt.step {α : Type} {E : Elem α} {e t : TypeId} {w0 w w' : World} {box rbox b p : Nat} {K : Tk} {op : Int} {v : Value} {L : List Row} {xs : List α} {k k' : Nat} (h : AccAt E e t w0 box rbox b p K op v L xs k w) (hr : RdAt w' b p K k' op v L) (hf : Fr (Me p) w w') : AccAt E e t w0 box rbox b p K op v L xs k' w' := by
  obtain ⟨k0, op0, h0⟩ := h.old
  obtain ⟨sl, hb, ho⟩ := h.ex
  have hp0 := h0.lt
  have hlo := h.lo
  have hbl := (Array.getElem?_eq_some_iff.1 hb).1
  refine ⟨hr, h.fr.trans hf (fun _ _ e => e), ⟨sl, ?_, sown_same ho (fun j hj hl => hf.block j hl (fun e => ?_))⟩, ?_, h.lo, h.old⟩
  · rw [hf.block box hbl (fun e => by change box = p at e; omega)]; exact hb
  · change j = p at e
    have := (SOwn.block ho j hj).1
    omega
  · rw [hf.block rbox (by omega) (fun e => by change rbox = p at e; omega)]; exact h.rb
theorem acc_val {α : Type} {E : Elem α} {e t : TypeId} {w0 w : World} {box rbox b p : Nat} {K : Tk} {op : Int} {v : Value} {L : List Row} {xs : List α} {k : Nat} {x : Value} (h : AccAt E e t w0 box rbox b p K op v L xs k w) (hsl : w.heap[box]? = some (.cells #[x] t (0, 0))) : SOwn E e w (box + 1) x xs.length xs := by
  obtain ⟨sl', hb, ho⟩ := h.ex
  rw [hsl] at hb
  simp only [Option.some.injEq, Obj.cells.injEq, Array.mk.injEq, List.cons.injEq] at hb
  rw [hb.1.1]
  exact ho
/-- One more. -/
theorem AccAt.put {α : Type} {E : Elem α} {e t : TypeId} {w0 w w2 : World} {box rbox b p : Nat} {K : Tk} {op : Int} {v : Value} {L : List Row} {xs ys : List α} {k k' : Nat} {sl sl2 : Sl} (h : AccAt E e t w0 box rbox b p K op v L xs k w) (hsl : w.heap[box]? = some (.cells #[slV sl] t (0, 0))) (hr : RdAt w2 b p K k' op v L) (hf : Fr (Wr p (slV sl)) w w2) (ho2 : SOwn E e w2 (box + 1) (slV sl2) ys.length ys) :
    w2.cell? ⟨box, 0, none⟩ = some (slV sl) ∧ w2.frozen? ⟨box, 0, none⟩ = false ∧ AccAt E e t w0 box rbox b p K op v L ys k' (w2.setCell ⟨box, 0, none⟩ (slV sl2)) := by
  have ho := acc_val h hsl
  obtain ⟨k0, op0, h0⟩ := h.old
  have hlo := h.lo
  have hbl := (Array.getElem?_eq_some_iff.1 hsl).1
  have hp0 := h0.lt
  have hown : ∀ j, (slV sl).ownBlock = some j → box + 1 ≤ j := fun j hj => (SOwn.block ho j hj).1
  have e3 : w2.heap[box]? = some (.cells #[slV sl] t (0, 0)) := by
    rw [hf.block box hbl (fun e => by rcases e with e | e; omega; have := hown _ e; omega)]; exact hsl
  have hF : Fr (fun j => w0.heap.size ≤ j) w2 (w2.setCell ⟨box, 0, none⟩ (slV sl2)) := (fr_set box 0 w2 _).mono (fun j _ e => by change j = box at e; show w0.heap.size ≤ j; omega)
  refine ⟨one_cell e3, free_row e3 0, h0.past hr hF (fun j e => e), (h.fr.trans hf (fun j hj e => ?_)).trans hF (fun j hj e => by change w0.heap.size ≤ j at e; omega), ⟨sl2, one_set e3 _, sown_same ho2 (fun j hj _ => set_other (fun e => by have := (SOwn.block ho2 j hj).1; omega))⟩, ?_, h.lo, h.old⟩
  · rcases e with e | e
    · exact e
    · have := hown j e; omega
  · rw [set_other (by omega), hf.block rbox (by omega) (fun e => by rcases e with e | e; omega; have := hown _ e; omega)]
    exact h.rb
theorem acc_past {α : Type} {E : Elem α} {e t : TypeId} {w0 w w1 w2 : World} {box rbox b p : Nat} {K : Tk} {op : Int} {v : Value} {L : List Row} {xs : List α} {k k' : Nat} {sl : Sl} (h : AccAt E e t w0 box rbox b p K op v L xs k w) (hr : RdAt w1 b p K k' op v L) (hf : Fr (Me p) w w1) (hsl : w.heap[box]? = some (.cells #[slV sl] t (0, 0))) (hg : w1.grownBy w2 (slV sl).ownBlock) : RdAt w2 b p K k' op v L ∧ Fr (Wr p (slV sl)) w w2 := by
  have ho := acc_val h hsl
  obtain ⟨k0, op0, h0⟩ := h.old
  have hlo := h.lo
  have hown : ∀ j, (slV sl).ownBlock = some j → box + 1 ≤ j := fun j hj => (SOwn.block ho j hj).1
  have hF : Fr (fun j => (slV sl).ownBlock = some j) w1 w2 := Fr.row hg (fun j hj => hj)
  exact ⟨h0.past hr hF (fun j e => by have := hown j e; omega), (hf.mono (fun j _ e => .inl e)).trans hF (fun j _ e => .inr e)⟩
theorem AccAt.put1 {α : Type} {E : Elem α} {e t : TypeId} {w0 w w1 w2 : World} {box rbox b p : Nat} {K : Tk} {op : Int} {v : Value} {L : List Row} {xs ys : List α} {k k' : Nat} {sl sl2 : Sl} (h : AccAt E e t w0 box rbox b p K op v L xs k w) (hr : RdAt w1 b p K k' op v L) (hf : Fr (Me p) w w1) (hsl : w.heap[box]? = some (.cells #[slV sl] t (0, 0))) (hg : w1.grownBy w2 (slV sl).ownBlock) (ho2 : SOwn E e w2 (box + 1) (slV sl2) ys.length ys) :
    w2.cell? ⟨box, 0, none⟩ = some (slV sl) ∧ w2.frozen? ⟨box, 0, none⟩ = false ∧ AccAt E e t w0 box rbox b p K op v L ys k' (w2.setCell ⟨box, 0, none⟩ (slV sl2)) :=
  h.put hsl (acc_past h hr hf hsl hg).1 (acc_past h hr hf hsl hg).2 ho2
theorem acc_rb {α : Type} {E : Elem α} {e t : TypeId} {w0 w w1 w2 : World} {box rbox b p : Nat} {K : Tk} {op : Int} {v : Value} {L : List Row} {xs ys : List α} {k k' : Nat} {sl sl2 : Sl} (h : AccAt E e t w0 box rbox b p K op v L xs k w) (hr : RdAt w1 b p K k' op v L) (hf : Fr (Me p) w w1) (hsl : w.heap[box]? = some (.cells #[slV sl] t (0, 0))) (hg : w1.grownBy w2 (slV sl).ownBlock) (ho2 : SOwn E e w2 (box + 1) (slV sl2) ys.length ys) :
    w2.cell? ⟨rbox, 0, none⟩ = some (.pointer (some ⟨p, 0, none⟩)) := by
  have h1 := (h.put1 hr hf hsl hg ho2).2.2.rb
  have hlo := h.lo
  rw [set_other (by omega)] at h1
  exact one_cell h1
theorem acc_box {α : Type} {E : Elem α} {e t : TypeId} {w0 w w1 : World} {box rbox b p : Nat} {K : Tk} {op : Int} {v : Value} {L : List Row} {xs : List α} {k : Nat} {x : Value} (h : AccAt E e t w0 box rbox b p K op v L xs k w) (hf : Fr (Me p) w w1) (hsl : w.heap[box]? = some (.cells #[x] t (0, 0))) : w1.cell? ⟨box, 0, none⟩ = some x := by
  obtain ⟨k0, op0, h0⟩ := h.old
  have hp0 := h0.lt
  have hlo := h.lo
  refine one_cell ((hf.block box (Array.getElem?_eq_some_iff.1 hsl).1 (fun e => by change box = p at e; omega)).trans hsl)
theorem acc_own {α : Type} {E : Elem α} {e t : TypeId} {w0 w w1 : World} {box rbox b p : Nat} {K : Tk} {op : Int} {v : Value} {L : List Row} {xs : List α} {k : Nat} {x : Value} (h : AccAt E e t w0 box rbox b p K op v L xs k w) (hf : Fr (Me p) w w1) (hsl : w.heap[box]? = some (.cells #[x] t (0, 0))) (ho : SOwn E e w (box + 1) x xs.length xs) : SOwn E e w1 (box + 1) x xs.length xs := by
  obtain ⟨k0, op0, h0⟩ := h.old
  have hp0 := h0.lt
  have hlo := h.lo
  exact sown_same ho (fun j hj hl => hf.block j hl (fun e => by change j = p at e; have := (SOwn.block ho j hj).1; omega))
theorem acc_size {α : Type} {E : Elem α} {e t : TypeId} {w0 w : World} {box rbox b p : Nat} {K : Tk} {op : Int} {v : Value} {L : List Row} {xs : List α} {k : Nat} {o : Obj} (h : AccAt E e t w0 box rbox b p K op v L xs k w) : box + 1 ≤ (w.alloc o).heap.size := by
  obtain ⟨sl, hb, _⟩ := h.ex
  have := (Array.getElem?_eq_some_iff.1 hb).1
  rw [size_alloc]; omega
theorem str_lit1 (w : World) (s : ByteArray) : SRd strE (w.alloc (.cells #[.string s] 9)) (some ⟨w.heap.size, 0, none⟩) [s] := row_lit w [s]
theorem nstep_ok {ns : List ByteArray} {ts r : List Tok} {s : ByteArray} (h : lname ts = .ok s r) : nstep ns ts = .ok (ns ++ [s]) r := by unfold nstep; rw [h, bind_ok]
theorem nstep_bad {ns : List ByteArray} {ts : List Tok} {q c : Int} (h : lname ts = .bad q c) : nstep ns ts = .bad q c := by unfold nstep; rw [h, bind_bad]
set_option maxHeartbeats 4000000 in
theorem f_nstep {w0 w : World} {box rbox b p : Nat} {K : Tk} {op : Int} {v : Value} {L : List Row} {ns : List ByteArray} {k : Nat} {ts : List Tok} (h : AccAt strE 9 32 w0 box rbox b p K op v L ns k w) (ha : Ahead K k ts) (hn : ns.length ≤ 1000000) :
    Calls Try.prog 60 #[.pointer (some ⟨box, 0, none⟩), .pointer (some ⟨rbox, 0, none⟩)] w fun e w' => LOut (fun ns k w' => AccAt strE 9 32 w0 box rbox b p K op v L ns k w') K (Me p) w0 k (nstep ns ts) e w' := by
  have H := hid h
  have HA := hid ha
  obtain ⟨sl, hb, ho⟩ := h.ex
  have gd : w.grownBy w.drew none := gb_drew (World.grownBy.refl w none)
  have HL := hid (f_lname (h.rd.grown gd) ha)
  have r0 := one_cell h.rb
  have b0 := one_cell hb
  have r1 : w.drew.cell? ⟨rbox, 0, none⟩ = _ := r0
  have b1 : w.drew.cell? ⟨box, 0, none⟩ = _ := b0
  have HB := hid hb
  have HO := hid ho
  cases hs : lname ts with
  | out => unfold lname at hs; split at hs <;> cases hs
  | ok s r =>
    rw [hs] at HL
    rw [nstep_ok hs]
    clear hs h ha hb ho
    obtain ⟨a0, n0, c0⟩ := sl
    unfold slV at *
    go_enter Try.func60, Try.ntmps60
    go_wp2_with fail
    refine wp_region_held_drew (S := fun W => W.cell? ⟨rbox, 0, none⟩ = some (.pointer (some ⟨p, 0, none⟩))) (by kernel_rfl) r1 (fun hHeld => ?_)
    refine wpAnyH_take (i := 1) (v := .pointer (some ⟨p, 0, none⟩)) rfl (by kernel_rfl) (by kernel_rfl) (by kernel_rfl) (fun _ _ _ h => h) (Or.inl ⟨by rfl, fun w hSw => ?_⟩) (by assumption) ?_
    · go_simp
    (try simp only [Act.put]); (try simp only [List.setIfInBounds_toArray]); (try simp only [List.set_cons_succ]); (try simp only [List.set_cons_zero])
    refine wpAnyH_ready (rs := [0, 2]) (by kernel_rfl) (by simp) (AllReadyH.cons (i := 0) rfl (fun K9 hK => ?_) (AllReadyH.cons (i := 2) rfl (fun K9 hK => ?_) AllReadyH.nil))
    · go_simp
      refine hK.out _ _ r1 (fun hHeld => ?_)
      clear hK K9 hHeld
      (try simp only [Act.put]); (try simp only [List.setIfInBounds_toArray]); (try simp only [List.set_cons_succ]); (try simp only [List.set_cons_zero])
      refine wpAnyH_ready (rs := [2]) (by kernel_rfl) (by simp) (AllReadyH.cons (i := 2) rfl (fun K9 hK => ?_) AllReadyH.nil)
      go_simp
      refine HL.out.mono ?_
      rintro e w1 ⟨rfl, k1, h1, ha1, hk1, f1⟩
      have F1 : Hid (Fr (Me p) w w1) := ⟨f1.os, f1.tape, f1.output, f1.size, f1.block⟩
      have HA1 := hid ha1
      have HK1 := hid hk1
      have HR1 := hid h1
      have H1 := hid (H.out.step h1 F1.out)
      have b2 := acc_box H.out F1.out HB.out
      have r2 := one_cell H1.out.rb
      have HO1 := hid (acc_own H.out F1.out HB.out HO.out)
      refine hK.out _ _ r2 (fun hHeld => ?_)
      clear hK K9 h1 ha1 hk1 f1 hHeld
      (try simp only [Act.put]); (try simp only [List.setIfInBounds_toArray]); (try simp only [List.set_cons_succ]); (try simp only [List.set_cons_zero])
      refine wpAnyH_ready (rs := [3]) (by kernel_rfl) (by simp) (AllReadyH.cons (i := 3) rfl (fun K9 hK => ?_) AllReadyH.nil)
      go_simp
      have g2 := World.grownBy_alloc w1 (.cells #[.string s] 9) none
      have r3 := g2.cell r2 (by simp)
      have b3 := g2.cell b2 (by simp)
      have HRD := hid (str_lit1 w1 s)
      have HO2 := hid (SOwn.kept HO1.out g2 (by cases a0 <;> simp [Value.ownBlock]))
      have HR2 := hid (HR1.out.grown g2)
      have F2 : Hid (Fr (Me p) w (w1.alloc (.cells #[.string s] 9))) := F1.out.trans (.of (S := Me p) g2) (fun _ _ e => e)
      have HSZ := hid (acc_size (o := .cells #[.string s] 9) H1.out)
      refine hK.out _ _ r3 (fun hHeld => ?_)
      clear hK K9 g2 hHeld
      (try simp only [Act.put]); (try simp only [List.setIfInBounds_toArray]); (try simp only [List.set_cons_succ]); (try simp only [List.set_cons_zero])
      refine wpAnyH_ready (rs := [4]) (by kernel_rfl) (by simp) (AllReadyH.cons (i := 4) rfl (fun K9 hK => ?_) AllReadyH.nil)
      refine step_append_e strT rfl (.tmp 2) (.tmp 5) rfl (box + 1) (.slice a0 n0 c0) ns.length ns (by simp [Act.eval]) HO2.out ⟨w1.heap.size, 0, none⟩ [s] 1 1 (by simp [Act.eval]) rfl HRD.out (by omega) (by omega) (by unfold maxLen; omega) HSZ.out ?_
      intro g3 c3 w3 ho3 hg3 hgg
      have HP := hid (AccAt.put1 (sl := (a0, n0, c0)) (ys := ns ++ [s]) (sl2 := (some ⟨g3, 0, none⟩, ns.length + 1, c3)) H.out HR2.out F2.out HB.out hg3 (by rw [List.length_append]; exact ho3))
      have s3 := HP.out.1
      have z3 := HP.out.2.1
      have r4 : w3.cell? ⟨rbox, 0, none⟩ = some (.pointer (some ⟨p, 0, none⟩)) := acc_rb (sl := (a0, n0, c0)) (sl2 := (some ⟨g3, 0, none⟩, ns.length + 1, c3)) (ys := ns ++ [s]) H.out HR2.out F2.out HB.out hg3 (by rw [List.length_append]; exact ho3)
      refine hK.out _ _ r4 (fun hHeld => ?_)
      clear hK K9 hHeld ho3 hg3 hgg
      unfold slV at HP
      (try simp only [Act.put]); (try simp only [List.setIfInBounds_toArray]); (try simp only [List.set_cons_succ]); (try simp only [List.set_cons_zero])
      refine wpAnyH_ready (rs := [5]) (by kernel_rfl) (by simp) (AllReadyH.cons (i := 5) rfl (fun K9 hK => ?_) AllReadyH.nil)
      go_simp
      have r5 : (w3.setCell ⟨box, 0, none⟩ (.slice (some ⟨g3, 0, none⟩) (ns.length + 1) c3)).cell? ⟨rbox, 0, none⟩ = some (.pointer (some ⟨p, 0, none⟩)) := one_cell HP.out.2.2.rb
      refine hK.out _ _ r5 (fun hHeld => ?_)
      clear hK K9 hHeld
      (try simp only [Act.put]); (try simp only [List.setIfInBounds_toArray]); (try simp only [List.set_cons_succ]); (try simp only [List.set_cons_zero])
      refine wpAnyH_done (by kernel_rfl) ?_ _
      go_wp2
      go_end0
      exact ⟨rfl, k1, HP.out.2.2, HA1.out, HK1.out⟩
    · go_simp
      refine HL.out.mono ?_
      rintro e w1 ⟨rfl, k1, h1, ha1, hk1, f1⟩
      have F1 : Hid (Fr (Me p) w w1) := ⟨f1.os, f1.tape, f1.output, f1.size, f1.block⟩
      have HA1 := hid ha1
      have HK1 := hid hk1
      have HR1 := hid h1
      have H1 := hid (H.out.step h1 F1.out)
      have b2 := acc_box H.out F1.out HB.out
      have r2 := one_cell H1.out.rb
      have HO1 := hid (acc_own H.out F1.out HB.out HO.out)
      refine hK.out _ _ r2 (fun hHeld => ?_)
      clear hK K9 h1 ha1 hk1 f1 hHeld
      (try simp only [Act.put]); (try simp only [List.setIfInBounds_toArray]); (try simp only [List.set_cons_succ]); (try simp only [List.set_cons_zero])
      refine wpAnyH_ready (rs := [0, 3]) (by kernel_rfl) (by simp) (AllReadyH.cons (i := 0) rfl (fun K9 hK => ?_) (AllReadyH.cons (i := 3) rfl (fun K9 hK => ?_) AllReadyH.nil))
      · go_simp
        refine hK.out _ _ r2 (fun hHeld => ?_)
        clear hK K9 hHeld
        (try simp only [Act.put]); (try simp only [List.setIfInBounds_toArray]); (try simp only [List.set_cons_succ]); (try simp only [List.set_cons_zero])
        refine wpAnyH_ready (rs := [3]) (by kernel_rfl) (by simp) (AllReadyH.cons (i := 3) rfl (fun K9 hK => ?_) AllReadyH.nil)
        go_simp
        have g2 := World.grownBy_alloc w1 (.cells #[.string s] 9) none
        have r3 := g2.cell r2 (by simp)
        have b3 := g2.cell b2 (by simp)
        have HRD := hid (str_lit1 w1 s)
        have HO2 := hid (SOwn.kept HO1.out g2 (by cases a0 <;> simp [Value.ownBlock]))
        have HR2 := hid (HR1.out.grown g2)
        have F2 : Hid (Fr (Me p) w (w1.alloc (.cells #[.string s] 9))) := F1.out.trans (.of (S := Me p) g2) (fun _ _ e => e)
        have HSZ := hid (acc_size (o := .cells #[.string s] 9) H1.out)
        refine hK.out _ _ r3 (fun hHeld => ?_)
        clear hK K9 g2 hHeld
        (try simp only [Act.put]); (try simp only [List.setIfInBounds_toArray]); (try simp only [List.set_cons_succ]); (try simp only [List.set_cons_zero])
        refine wpAnyH_ready (rs := [4]) (by kernel_rfl) (by simp) (AllReadyH.cons (i := 4) rfl (fun K9 hK => ?_) AllReadyH.nil)
        refine step_append_e strT rfl (.tmp 2) (.tmp 5) rfl (box + 1) (.slice a0 n0 c0) ns.length ns (by simp [Act.eval]) HO2.out ⟨w1.heap.size, 0, none⟩ [s] 1 1 (by simp [Act.eval]) rfl HRD.out (by omega) (by omega) (by unfold maxLen; omega) HSZ.out ?_
        intro g3 c3 w3 ho3 hg3 hgg
        have HP := hid (AccAt.put1 (sl := (a0, n0, c0)) (ys := ns ++ [s]) (sl2 := (some ⟨g3, 0, none⟩, ns.length + 1, c3)) H.out HR2.out F2.out HB.out hg3 (by rw [List.length_append]; exact ho3))
        have s3 := HP.out.1
        have z3 := HP.out.2.1
        have r4 : w3.cell? ⟨rbox, 0, none⟩ = some (.pointer (some ⟨p, 0, none⟩)) := acc_rb (sl := (a0, n0, c0)) (sl2 := (some ⟨g3, 0, none⟩, ns.length + 1, c3)) (ys := ns ++ [s]) H.out HR2.out F2.out HB.out hg3 (by rw [List.length_append]; exact ho3)
        refine hK.out _ _ r4 (fun hHeld => ?_)
        clear hK K9 hHeld ho3 hg3 hgg
        unfold slV at HP
        (try simp only [Act.put]); (try simp only [List.setIfInBounds_toArray]); (try simp only [List.set_cons_succ]); (try simp only [List.set_cons_zero])
        refine wpAnyH_ready (rs := [5]) (by kernel_rfl) (by simp) (AllReadyH.cons (i := 5) rfl (fun K9 hK => ?_) AllReadyH.nil)
        go_simp
        have r5 : (w3.setCell ⟨box, 0, none⟩ (.slice (some ⟨g3, 0, none⟩) (ns.length + 1) c3)).cell? ⟨rbox, 0, none⟩ = some (.pointer (some ⟨p, 0, none⟩)) := one_cell HP.out.2.2.rb
        refine hK.out _ _ r5 (fun hHeld => ?_)
        clear hK K9 hHeld
        (try simp only [Act.put]); (try simp only [List.setIfInBounds_toArray]); (try simp only [List.set_cons_succ]); (try simp only [List.set_cons_zero])
        refine wpAnyH_done (by kernel_rfl) ?_ _
        go_wp2
        go_end0
        exact ⟨rfl, k1, HP.out.2.2, HA1.out, HK1.out⟩
      · go_simp
        have g2 := World.grownBy_alloc w1 (.cells #[.string s] 9) none
        have r3 := g2.cell r2 (by simp)
        have b3 := g2.cell b2 (by simp)
        have HRD := hid (str_lit1 w1 s)
        have HO2 := hid (SOwn.kept HO1.out g2 (by cases a0 <;> simp [Value.ownBlock]))
        have HR2 := hid (HR1.out.grown g2)
        have F2 : Hid (Fr (Me p) w (w1.alloc (.cells #[.string s] 9))) := F1.out.trans (.of (S := Me p) g2) (fun _ _ e => e)
        have HSZ := hid (acc_size (o := .cells #[.string s] 9) H1.out)
        refine hK.out _ _ r3 (fun hHeld => ?_)
        clear hK K9 g2 hHeld
        (try simp only [Act.put]); (try simp only [List.setIfInBounds_toArray]); (try simp only [List.set_cons_succ]); (try simp only [List.set_cons_zero])
        refine wpAnyH_ready (rs := [0]) (by kernel_rfl) (by simp) (AllReadyH.cons (i := 0) rfl (fun K9 hK => ?_) AllReadyH.nil)
        go_simp
        refine hK.out _ _ r3 (fun hHeld => ?_)
        clear hK K9 hHeld
        (try simp only [Act.put]); (try simp only [List.setIfInBounds_toArray]); (try simp only [List.set_cons_succ]); (try simp only [List.set_cons_zero])
        refine wpAnyH_ready (rs := [4]) (by kernel_rfl) (by simp) (AllReadyH.cons (i := 4) rfl (fun K9 hK => ?_) AllReadyH.nil)
        refine step_append_e strT rfl (.tmp 2) (.tmp 5) rfl (box + 1) (.slice a0 n0 c0) ns.length ns (by simp [Act.eval]) HO2.out ⟨w1.heap.size, 0, none⟩ [s] 1 1 (by simp [Act.eval]) rfl HRD.out (by omega) (by omega) (by unfold maxLen; omega) HSZ.out ?_
        intro g3 c3 w3 ho3 hg3 hgg
        have HP := hid (AccAt.put1 (sl := (a0, n0, c0)) (ys := ns ++ [s]) (sl2 := (some ⟨g3, 0, none⟩, ns.length + 1, c3)) H.out HR2.out F2.out HB.out hg3 (by rw [List.length_append]; exact ho3))
        have s3 := HP.out.1
        have z3 := HP.out.2.1
        have r4 : w3.cell? ⟨rbox, 0, none⟩ = some (.pointer (some ⟨p, 0, none⟩)) := acc_rb (sl := (a0, n0, c0)) (sl2 := (some ⟨g3, 0, none⟩, ns.length + 1, c3)) (ys := ns ++ [s]) H.out HR2.out F2.out HB.out hg3 (by rw [List.length_append]; exact ho3)
        refine hK.out _ _ r4 (fun hHeld => ?_)
        clear hK K9 hHeld ho3 hg3 hgg
        unfold slV at HP
        (try simp only [Act.put]); (try simp only [List.setIfInBounds_toArray]); (try simp only [List.set_cons_succ]); (try simp only [List.set_cons_zero])
        refine wpAnyH_ready (rs := [5]) (by kernel_rfl) (by simp) (AllReadyH.cons (i := 5) rfl (fun K9 hK => ?_) AllReadyH.nil)
        go_simp
        have r5 : (w3.setCell ⟨box, 0, none⟩ (.slice (some ⟨g3, 0, none⟩) (ns.length + 1) c3)).cell? ⟨rbox, 0, none⟩ = some (.pointer (some ⟨p, 0, none⟩)) := one_cell HP.out.2.2.rb
        refine hK.out _ _ r5 (fun hHeld => ?_)
        clear hK K9 hHeld
        (try simp only [Act.put]); (try simp only [List.setIfInBounds_toArray]); (try simp only [List.set_cons_succ]); (try simp only [List.set_cons_zero])
        refine wpAnyH_done (by kernel_rfl) ?_ _
        go_wp2
        go_end0
        exact ⟨rfl, k1, HP.out.2.2, HA1.out, HK1.out⟩
  | bad q c =>
    rw [hs] at HL
    rw [nstep_bad hs]
    clear hs h ha hb ho
    obtain ⟨a0, n0, c0⟩ := sl
    unfold slV at *
    go_enter Try.func60, Try.ntmps60
    go_wp2_with fail
    refine wp_region_held_drew (S := fun W => W.cell? ⟨rbox, 0, none⟩ = some (.pointer (some ⟨p, 0, none⟩)) ∧ W.cell? ⟨box, 0, none⟩ = some (.slice a0 n0 c0)) (by kernel_rfl) ⟨r1, b1⟩ (fun hHeld => ?_)
    refine wpAnyH_take (i := 0) (v := .slice a0 n0 c0) rfl (by kernel_rfl) (by kernel_rfl) (by kernel_rfl) (fun _ _ _ h => h) (Or.inl ⟨by rfl, fun w hSw => ?_⟩) (by assumption) ?_
    · obtain ⟨x1, x2⟩ := hSw; go_simp
    (try simp only [Act.put]); (try simp only [List.setIfInBounds_toArray]); (try simp only [List.set_cons_succ]); (try simp only [List.set_cons_zero])
    refine wpAnyH_take (i := 1) (v := .pointer (some ⟨p, 0, none⟩)) rfl (by kernel_rfl) (by kernel_rfl) (by kernel_rfl) (fun _ _ _ h => h) (Or.inl ⟨by rfl, fun w hSw => ?_⟩) (by assumption) ?_
    · obtain ⟨x1, x2⟩ := hSw; go_simp
    (try simp only [Act.put]); (try simp only [List.setIfInBounds_toArray]); (try simp only [List.set_cons_succ]); (try simp only [List.set_cons_zero])
    refine wpAnyH_ready (rs := [2]) (by kernel_rfl) (by simp) (AllReadyH.cons (i := 2) rfl (fun K9 hK => ?_) AllReadyH.nil)
    go_simp
    refine HL.out.mono ?_
    rintro e w1 ⟨rfl, f1⟩
    exact ⟨rfl, rfl, H.out.fr.trans ⟨f1.os, f1.tape, f1.output, f1.size, f1.block⟩ (fun _ _ e => e)⟩
end Go.Proofs.Ytnimdngiejcljaa
