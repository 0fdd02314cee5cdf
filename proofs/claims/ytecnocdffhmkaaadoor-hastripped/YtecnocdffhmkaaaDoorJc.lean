/- awake; Leaders held against one another, and read back. (Printed by mk_jc.py.) -/
import Derived.Test.YtecnocdffhmkaaaDoorJb
import Derived.Test.YtecnocdffhmkaaaDoorHd
namespace Go.Proofs.YtecnocdffhmkaaaDoor
open Go.RowKit
set_option linter.unusedVariables false
set_option maxRecDepth 20000

theorem enc_app3 (a b c : List Int) : a ++ b ++ c = a ++ (b ++ c) := List.append_assoc _ _ _
/-- What was laid is read back. -/
theorem lead_back (x : ByteArray) (S : Int) (hx : x.size < 18446744073709551616) (hS : -9223372036854775808 ≤ S ∧ S ≤ 9223372036854775807) : leadD (leadR x S) = (x, S, 0) := by
  have h1 := textR_at [] (enc (zz S).toNat) x hx (leadR x S) (by simp [leadR]) 0 rfl
  have h2 := intR_at (enc x.size ++ sInts x) [] S hS (leadR x S) (by simp [leadR]) ((enc x.size).length + x.size : Int) (by rw [List.length_append, sInts_len]; omega)
  unfold leadD
  rw [h1]
  simp only [List.length_nil]
  have e0 : ((0 : Nat) : Int) + ((enc x.size).length : Int) + (x.size : Int) = ((enc x.size).length : Int) + (x.size : Int) := by omega
  rw [e0, h2]
  have e1 : ((enc x.size ++ sInts x).length : Int) + ((enc (zz S).toNat).length : Int) = ((leadR x S).length : Int) := by
    rw [leadR, List.length_append (bs := enc (zz S).toNat)]
    omega
  simp only
  rw [if_neg (by simp), if_neg (by rw [e1]; simp)]
theorem equal32 (s t : ByteArray) (S T : Int) (w : World) : (Op.equal 32 (leadV s S) (leadV t T)).run Tryd.prog w = .ok (decide (s = t) && decide (S = T)) w := by
  have hf : (Tryd.prog.fieldsOf 32).toList.map (fun f => (f.type, f.offset)) = [(9, 0), (2, 1)] := by kernel_rfl
  have hn : (Tryd.prog.fieldsOf 32).toList.all (fun f => f.name != "_") = true := by kernel_rfl
  have hu : Tryd.prog.underlying 32 = some (.struct (Tryd.prog.fieldsOf 32)) := by kernel_rfl
  have hp : Tryd.prog.stoodInHeld 32 = false := by kernel_rfl
  simp only [Op.equal]
  rw [show Op.maxDepth = 9999 + 1 from rfl, run_equalIn_struct w 9999 32 _ _ hu hp]
  generalize (Tryd.prog.fieldsOf 32).toList = fs at hf hn
  have hl : fs.length = 2 := by simpa using congrArg List.length hf
  obtain ⟨f1, f2, rfl⟩ : ∃ f1 f2, fs = [f1, f2] := by
    match fs, hl with
    | [f1, f2], _ => exact ⟨f1, f2, rfl⟩
  simp only [List.map_cons, List.map_nil, List.cons.injEq, Prod.mk.injEq, and_true] at hf
  simp only [List.all_cons, List.all_nil, Bool.and_true, Bool.and_eq_true, bne_iff_ne] at hn
  obtain ⟨⟨h1, h2⟩, h3, h4⟩ := hf
  have p0 : ∀ (x : ByteArray) (y : Int) (w : World), (part 9 #[.string x, .int .i64 y] 0).run Tryd.prog w = .ok (.string x) w := fun x y w => by simp [part, go_sem]
  have p1 : ∀ (x : ByteArray) (y : Int) (w : World), (part 2 #[.string x, .int .i64 y] 1).run Tryd.prog w = .ok (.int .i64 y) w := fun x y w => by simp [part, go_sem]
  have q : ∀ (x y : ByteArray) (w : World), (Op.equalIn 9999 9 (.string x) (.string y)).run Tryd.prog w = .ok (x.toList == y.toList) w := fun x y w => run_equalIn_string w 9998 9 x y Tryd.underlying9
  have q2 : ∀ (x y : Int) (w : World), (Op.equalIn 9999 2 (.int .i64 x) (.int .i64 y)).run Tryd.prog w = .ok (x == y) w := fun x y w => run_equalIn_int w 9998 2 .i64 .i64 x y Tryd.underlying2
  simp only [Op.eqFields, hn.1, hn.2, h1, h2, h3, h4, ne_eq, not_false_eq_true, if_true, Sem.run_bind, p0, q, Result.andThen_ok]
  rw [str_eq]
  by_cases e1 : s = t <;> by_cases e2 : S = T <;> simp [e1, e2, p1, q2]
theorem neq32 (s t : ByteArray) (S T : Int) (w : World) : (binOp .neq 32 (leadV s S) (leadV t T)).run Tryd.prog w = .ok (.bool (!(decide (s = t) && decide (S = T)))) w := by
  simp [binOp, equal32]
theorem eql32 (s t : ByteArray) (S T : Int) (w : World) : (binOp .eql 32 (leadV s S) (leadV t T)).run Tryd.prog w = .ok (.bool (decide (s = t) && decide (S = T))) w := by
  simp [binOp, equal32]
abbrev awQ : List Smp := [([(clB, ⟨#[99]⟩), (rpB, ⟨#[114]⟩)], 0, 0)]
theorem aw_split : splitR awQ = (⟨#[99]⟩, ⟨#[114]⟩, [([(clB, ⟨#[99]⟩)], 0, 0)], 0) := by kernel_rfl
theorem aw_rd (w : World) : SmpRd ((w.alloc (.cells #[.string clB, .string ⟨#[99]⟩, .string rpB, .string ⟨#[114]⟩] 63)).alloc (.cells #[.slice (some ⟨w.heap.size, 0, none⟩) 2 2, .int .i64 0, .int .u64 0] 47)) (some ⟨w.heap.size + 1, 0, none⟩) [((some ⟨w.heap.size, 0, none⟩, 2, 2), 0, 0)] awQ := by
  have hs : (w.alloc (.cells #[.string clB, .string ⟨#[99]⟩, .string rpB, .string ⟨#[114]⟩] 63)).heap.size = w.heap.size + 1 := Array.size_push _
  refine ⟨?_, rfl, fun i r s hr hs => ?_⟩
  · rw [← hs]
    exact srd_lit smpE 47 _ [((some ⟨w.heap.size, 0, none⟩, 2, 2), 0, 0)]
  · obtain ⟨h7, _⟩ := List.getElem?_eq_some_iff.1 hr
    simp at h7
    subst h7
    simp at hr hs
    subst hr hs
    exact ⟨rfl, (srd_lit labE 63 w [(clB, ⟨#[99]⟩), (rpB, ⟨#[114]⟩)]).grown (World.grownBy_alloc _ _ none) (by simp), by simp, by simp, rfl⟩
theorem key_size (t c : ByteArray) : 5 + t.size ≤ (keyR t c).size := by
  have h1 : 1 ≤ (Lib.decDigits (hashN c)).length := by
    rw [Lib.decDigits]
    split <;> simp
  have h2 : (⟨(Lib.decDigits (hashN c)).toArray⟩ : ByteArray).size = (Lib.decDigits (hashN c)).length := List.size_toArray
  have h3 : (⟨#[104, 97, 47]⟩ : ByteArray).size = 3 := rfl
  have h4 : (⟨#[47]⟩ : ByteArray).size = 1 := rfl
  unfold keyR
  rw [ByteArray.size_append, ByteArray.size_append, ByteArray.size_append, h2, h3, h4]
  omega
set_option maxHeartbeats 4000000 in
theorem h_awake (w : World) (htab : Tab w) : Calls Tryd.prog 13 #[] w fun e w' => e = .returned (.bool true) ∧ w.grownBy w' none := by
  obtain ⟨W1, hW1⟩ : ∃ W1, (w.alloc (.cells #[.string clB, .string ⟨#[99]⟩, .string rpB, .string ⟨#[114]⟩] 63)).alloc (.cells #[.slice (some ⟨w.heap.size, 0, none⟩) 2 2, .int .i64 0, .int .u64 0] 47) = W1 := ⟨_, rfl⟩
  have HG1 : Hid (w.grownBy W1 none) := hW1 ▸ (World.grownBy_alloc w _ none).trans (World.grownBy_alloc _ _ none)
  have HSP : Hid (Calls Tryd.prog 10 #[.slice (some ⟨w.heap.size + 1, 0, none⟩) 1 1] W1 fun e w' => ∃ a' c', e = .returned (.tuple #[.string ⟨#[99]⟩, .string ⟨#[114]⟩, .slice a' 1 c', .int .i64 0]) ∧ Hid (∃ b off la lc, a' = some ⟨b, off, none⟩ ∧ w'.cell? ⟨b, off, none⟩ = some (.slice la 1 lc)) ∧ Hid (W1.grownBy w' none)) := by
    have h := f_split (some ⟨w.heap.size + 1, 0, none⟩) _ awQ 1 1 _ _ _ _ W1 (hW1 ▸ aw_rd w) rfl (by omega) aw_split
    refine h.mono ?_
    rintro e w' ⟨a', c', raw', he, ho, hg⟩
    obtain ⟨hrd, _, _⟩ := ho.rd
    obtain ⟨b, off, la, lc, rfl, c0, _⟩ := smp_cells hrd (k := 0) (ls := [(clB, ⟨#[99]⟩)]) (T := 0) (V := 0) rfl
    exact ⟨_, c', he, ⟨b, off, la, lc, rfl, by simpa using c0⟩, hg⟩
  have HEN : Hid (∀ w1, Calls Tryd.prog 19 #[leadV ⟨#[114]⟩ (-7)] w1 fun e w' => ∃ g c M, e = .returned (.slice (some ⟨g, 0, none⟩) M c) ∧ Hid (Own w' w1.heap.size g M c (leadR ⟨#[114]⟩ (-7))) ∧ Hid (w1.grownBy w' none)) := fun w1 => f_encodeL ⟨#[114]⟩ (-7) w1 (by decide) (by omega)
  have HDE : Hid (∀ (w0 w1 : World) (g c M : Nat), Hid (Own w1 w0.heap.size g M c (leadR ⟨#[114]⟩ (-7))) → Calls Tryd.prog 16 #[.slice (some ⟨g, 0, none⟩) M c] w1 fun e w' => e = .returned (leadT ⟨#[114]⟩ (-7) 0) ∧ w1.grownBy w' none) := fun w0 w1 g c M ho => by
    have hl := ho.out.len
    have hlen : (leadR ⟨#[114]⟩ (-7)).length = 3 := by
      have e : zz (-7) = 13 := by decide
      rw [leadR, e, List.length_append, List.length_append, sInts_len, enc_small (by decide), enc_small (by decide)]
      rfl
    exact f_decodeL (some ⟨g, 0, none⟩) _ M c ⟨#[114]⟩ (-7) 0 w1 ho.out.rd hl ho.out.cap.1 (by omega) (lead_back _ _ (by decide) (by omega))
  have HDC : Hid (∀ w1, Calls Tryd.prog 23 #[.bool false, leadV ⟨#[]⟩ 0, .string ⟨#[114]⟩, .int .i64 0, .int .i64 5, .int .i64 30] w1 fun e w' => e = .returned (.int .i64 2) ∧ w1.grownBy w' none) := fun w1 => f_decide false _ _ 0 0 5 30 2 w1 (by omega) (by omega) rfl
  have hk5 := key_size ⟨#[116]⟩ ⟨#[99]⟩
  have HKE : Hid (∀ w1, w.grownBy w1 none → Calls Tryd.prog 21 #[.string ⟨#[116]⟩, .string ⟨#[99]⟩] w1 fun e w' => e = .returned (.string (keyR ⟨#[116]⟩ ⟨#[99]⟩)) ∧ w1.grownBy w' none) := fun w1 hg => f_key _ _ w1 (by decide) (by decide) (htab.grown hg)
  generalize keyR ⟨#[116]⟩ ⟨#[99]⟩ = K at hk5 HKE
  have hk6 : decide ((5 : Int) < (K.size : Int)) = true := by
    have : (⟨#[116]⟩ : ByteArray).size = 1 := rfl
    simp
    omega
  have HW1 : Hid ((w.alloc (.cells #[.string clB, .string ⟨#[99]⟩, .string rpB, .string ⟨#[114]⟩] 63)).alloc (.cells #[.slice (some ⟨w.heap.size, 0, none⟩) 2 2, .int .i64 0, .int .u64 0] 47) = W1) := hW1
  clear hW1 htab hk5
  go_enter Tryd.func13, Tryd.ntmps13
  go_wp2_with fail
  rw [HW1.out]
  refine HSP.out.mono ?_
  rintro e w2 ⟨a2, c2, rfl, HC2, HG2⟩
  obtain ⟨b, off, la, lc, rfl, hc2⟩ := HC2.out
  have HC2' : Hid (w2.cell? ⟨b, off, none⟩ = some (.slice la 1 lc)) := hc2
  clear hc2 HC2
  go_wp2_with fail
  refine (HEN.out w2).mono ?_
  rintro e w3 ⟨g3, c3, M3, rfl, HO3, HG3⟩
  go_wp2_with fail
  refine (HDE.out _ w3 g3 c3 M3 HO3).mono ?_
  rintro e w4 ⟨rfl, hg4⟩
  have HG4 : Hid (w3.grownBy w4 none) := hg4
  clear hg4
  obtain ⟨W5, hW5⟩ : ∃ W5, w4.alloc (.cells #[.string ⟨#[114]⟩, .int .i64 (-7)] 32) = W5 := ⟨_, rfl⟩
  have HG5 : Hid (w4.grownBy W5 none) := hW5 ▸ World.grownBy_alloc w4 _ none
  have x0 : W5.cell? ⟨w4.heap.size, 0, none⟩ = some (.string ⟨#[114]⟩) := by rw [← hW5, cell_of_row _ w4.heap.size 0 _ _ _ (heap_alloc_new w4 _)]; rfl
  have x1 : W5.cell? ⟨w4.heap.size, 1, none⟩ = some (.int .i64 (-7)) := by rw [← hW5, cell_of_row _ w4.heap.size 1 _ _ _ (heap_alloc_new w4 _)]; rfl
  have HW5 : Hid (w4.alloc (.cells #[.string ⟨#[114]⟩, .int .i64 (-7)] 32) = W5) := hW5
  clear hW5
  go_upto_region 3 with fail
  rw [HW5.out]
  have y0 : W5.cell? ⟨b, off, none⟩ = some (.slice la 1 lc) := HG5.out.cell (HG4.out.cell (HG3.out.cell HC2'.out (by simp)) (by simp)) (by simp)
  have hq : ∀ w, _ := eql32 ⟨#[114]⟩ ⟨#[114]⟩ (-7) (-7)
  have HGA : Hid (w.grownBy W5 none) := ((((HG1.out.trans HG2.out).trans HG3.out).trans HG4.out).trans HG5.out)
  go_wp2_with (first
    | (go_at_call 23; refine (HDC.out _).mono ?_; rintro e w6 ⟨rfl, hg6⟩; have HG6 : Hid (w.grownBy w6 none) := HGA.out.trans hg6; clear hg6)
    | (go_at_call 21; refine (HKE.out _ HG6.out).mono ?_; rintro e w7 ⟨rfl, hg7⟩))
  go_ret
  exact ⟨rfl, HG6.out.trans hg7⟩
end Go.Proofs.YtecnocdffhmkaaaDoor
