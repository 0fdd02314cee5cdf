/- Several texts in one: Ke, Wt. -/
import Derived.Test.YtgpgkpciajajcaaGreatDoorMm
import Derived.Test.YtgpgkpciajajcaaGreatDoorMl
/- Package kv: a record, read; the keys. -/
namespace Go.Proofs.YtgpgkpciajajcaaGreatDoor
open Go.RowKit Go.Maps
set_option linter.unusedVariables false
set_option maxRecDepth 20000

set_option maxHeartbeats 8000000 in
theorem k_read (k : ByteArray) (v : Nat) (s : ByteArray) (a : Option Addr) (L c : Nat) (w : World) (hr : Rd w a (recL k (v, s))) (hL : (recL k (v, s)).length = L) (hc : L ≤ c) (hok : RegOk k (v, s)) :
    Calls Tryz.prog 81 #[.slice a L c] w fun e w' => e = .returned (.tuple #[.string k, .agg #[.int .u64 (v : Int), .string s], .bool true]) ∧ w.grownBy w' none := by
  obtain ⟨W1, eW1⟩ : ∃ W1, W1 = w.alloc (.cells #[.int .u64 0, .string ⟨#[]⟩] 90) := ⟨_, rfl⟩
  have HG1 : Hid (w.grownBy W1 none) := by show w.grownBy W1 none; rw [eW1]; exact World.grownBy_alloc w _ none
  have HB : Hid (RgAt W1 w.heap.size (.int .u64 0) (.string ⟨#[]⟩)) := by show RgAt _ _ _ _; rw [eW1]; exact RgAt.new w _ _
  obtain ⟨P1, e1⟩ : ∃ P : Int, P = (((enc k.size).length + k.size : Nat) : Int) := ⟨_, rfl⟩
  obtain ⟨P2, e2⟩ : ∃ P : Int, P = (((enc k.size).length + k.size + (enc v).length : Nat) : Int) := ⟨_, rfl⟩
  have hk := hok.key
  have hv := hok.ver
  have hs := hok.size
  dsimp only at hv hs
  have l1 := enc_len k.size (by omega)
  have l2 := enc_len v (by omega)
  have l3 := enc_len s.size (by omega)
  have hL2 := recL_len k (v, s)
  dsimp only at hL2
  have HZ : (L : Int) ≤ 140737488355000 := by omega
  have HT1 : Hid (∀ w1, w.grownBy w1 none → Calls Tryz.prog 122 #[.slice a L c, .int .i64 0] w1 fun e w' => e = .returned (.tuple #[.string k, .int .i64 P1, .int .i64 0]) ∧ w1.grownBy w' none) := fun w1 hg =>
    f_text a (recL k (v, s)) L c 0 k P1 0 w1 (hr.grown hg (by simp)) hL hc HZ (by rw [e1]; exact rec_key k (v, s) hok)
  have HT2 : Hid (∀ w1, w.grownBy w1 none → Calls Tryz.prog 123 #[.slice a L c, .int .i64 P1] w1 fun e w' => e = .returned (.tuple #[.int .u64 (v : Int), .int .i64 P2, .int .i64 0]) ∧ w1.grownBy w' none) := fun w1 hg =>
    f_uint a (recL k (v, s)) L c P1 (v : Int) P2 0 w1 (hr.grown hg (by simp)) hL hc HZ (by rw [e2]; exact rec_ver k (v, s) hok P1 e1)
  have HT3 : Hid (∀ w1, w.grownBy w1 none → Calls Tryz.prog 122 #[.slice a L c, .int .i64 P2] w1 fun e w' => e = .returned (.tuple #[.string s, .int .i64 (L : Int), .int .i64 0]) ∧ w1.grownBy w' none) := fun w1 hg =>
    f_text a (recL k (v, s)) L c P2 s (L : Int) 0 w1 (hr.grown hg (by simp)) hL hc HZ (by rw [← hL]; exact rec_data k (v, s) hok P2 e2)
  have HK : Hid (∀ w1, Calls Tryz.prog 69 #[.string k] w1 fun e w' => e = .returned (.bool true) ∧ w1 = w') := fun w1 => by
    have := k_isKey k (by omega) w1
    rw [kB_true hk] at this
    exact this
  have q1 : ((v : Int) == 0) = false := by simp; omega
  clear hr hL hok hk hv hs l1 l2 l3 hL2 e1 e2
  go_enter Tryz.func81, Tryz.ntmps81
  go_upto_region 1 with fail
  rw [← eW1]
  clear eW1
  go_wp2_with fail
  refine (HT1.out _ HG1.out).mono ?_
  rintro e w1 ⟨rfl, hg⟩
  have HG2 : Hid (w.grownBy w1 none) := HG1.out.trans hg
  have HB2 : Hid (RgAt w1 w.heap.size (.int .u64 0) (.string ⟨#[]⟩)) := HB.out.grown hg
  clear hg HT1 HG1 HB
  go_wp2_with fail
  refine (HK.out _).mono ?_
  rintro e w2 ⟨rfl, rfl⟩
  go_wp2_with fail
  refine (HT2.out _ HG2.out).mono ?_
  rintro e w2 ⟨rfl, hg⟩
  have HG3 : Hid (w.grownBy w2 none) := HG2.out.trans hg
  have HB3 : Hid (RgAt w2 w.heap.size (.int .u64 0) (.string ⟨#[]⟩)) := HB2.out.grown hg
  clear hg HT2 HG2 HB2
  go_wp2_with fail
  refine (HT3.out _ HG3.out).mono ?_
  rintro e w3 ⟨rfl, hg⟩
  have HG4 : Hid (w.grownBy w3 none) := HG3.out.trans hg
  have HB4 : Hid (RgAt w3 w.heap.size (.int .u64 0) (.string ⟨#[]⟩)) := HB3.out.grown hg
  have c0 := HB4.out.c0
  have c1 := HB4.out.c1
  have g0 := HB4.out.f0
  have g1 := HB4.out.f1
  clear hg HT3 HG3 HB3
  go_wp2
  exact bodyPost_ret (results_mid Tryz.results81 _ _ _ _ _ rfl (HB4.out.set _ _).var) rfl ⟨rfl, gb_pair HG4.out (Nat.le_refl _) _ _⟩
/-- A store's struct. -/
def TriAt (w : World) (g : Nat) (x y z : Value) : Prop := w.heap[g]? = some (.cells #[x, y, z] 68 (0, 0))
section
variable {w w' : World} {g : Nat} {x y z : Value}
theorem TriAt.c0 (h : TriAt w g x y z) : w.cell? ⟨g, 0, none⟩ = some x := by rw [cell_of_row w g 0 _ _ _ h]; rfl
theorem TriAt.c1 (h : TriAt w g x y z) : w.cell? ⟨g, 1, none⟩ = some y := by rw [cell_of_row w g 1 _ _ _ h]; rfl
theorem TriAt.c2 (h : TriAt w g x y z) : w.cell? ⟨g, 2, none⟩ = some z := by rw [cell_of_row w g 2 _ _ _ h]; rfl
theorem TriAt.f (h : TriAt w g x y z) (i : Nat) : w.frozen? ⟨g, i, none⟩ = false := by unfold TriAt at h; simp [World.frozen?, h]
theorem TriAt.lt (h : TriAt w g x y z) : g < w.heap.size := (Array.getElem?_eq_some_iff.1 h).1
theorem TriAt.grown (h : TriAt w g x y z) (hg : w.grownBy w' none) : TriAt w' g x y z := (hg.block g h.lt (by simp)).trans h
theorem TriAt.stay (h : TriAt w g x y z) (hb : w'.heap[g]? = w.heap[g]?) : TriAt w' g x y z := hb.trans h
theorem TriAt.new (w : World) (x y z : Value) : TriAt (w.alloc (.cells #[x, y, z] 68)) w.heap.size x y z := heap_alloc_new w _
theorem TriAt.set0 (h : TriAt w g x y z) (x' : Value) : TriAt (w.setCell ⟨g, 0, none⟩ x') g x' y z := by
  unfold TriAt at *
  rw [setCell_eq_setRow w g 0 _ 68 (0, 0) _ h, setRow_heap w g _ _ 68 _ h]
  rfl
theorem TriAt.set2 (h : TriAt w g x y z) (z' : Value) : TriAt (w.setCell ⟨g, 2, none⟩ z') g x y z' := by
  unfold TriAt at *
  rw [setCell_eq_setRow w g 2 _ 68 (0, 0) _ h, setRow_heap w g _ _ 68 _ h]
  rfl
end
/-- The keys of registers that begin so. -/
def KeysOf (F : ByteArray → Option Reg) (p : ByteArray) (l : List ByteArray) : Prop := l.Nodup ∧ (l.Pairwise fun x y => x.data.toList ≤ y.data.toList) ∧ ∀ s, s ∈ l ↔ (F s).isSome = true ∧ Lib.hasPrefix s.data.toList p.data.toList = true
theorem reg_invV {v : Value} {y : DataW Unit × List MemPlace} (h : regE v = some y) : ∃ r, v = regV0 r := by
  obtain ⟨r, h1, _⟩ := reg_inv h
  exact ⟨r, h1⟩
set_option maxHeartbeats 4000000 in
theorem k_keys (sb mb n : Nat) (x y : Value) (F : ByteArray → Option Reg) (p : ByteArray) (w : World) (hs : TriAt w sb x y (.map (some mb))) (hmap : RegIs w mb n F) (hn : n ≤ 4194304) :
    Calls Tryz.prog 68 #[.pointer (some ⟨sb, 0, none⟩), .string p] w fun e w' => ∃ a c l, e = .returned (.slice a l.length c) ∧ SOwn strE 9 w' w.heap.size (.slice a l.length c) l.length l ∧ w.grownBy w' none ∧ KeysOf F p l ∧ l.length ≤ n := by
  have c2 := hs.c2
  obtain ⟨D, hm, hda, hdh, hdi⟩ := id hmap
  have HM : Hid (w.ownsMap Tryz.prog 9 regE mb n D) := hm
  have HMB : Hid (mb < w.heap.size) := hmap.lt
  have HSZ : Hid (Maps.size D ≤ n) := hm.size_le
  have HDV : Hid (∀ s, Maps.has D (kn s) = true ↔ (F s).isSome = true) := by
    intro s
    constructor
    · intro hs
      obtain ⟨t, e, ht⟩ := hdh _ hs
      obtain rfl := kn_inj e
      exact ht
    · exact hdi s
  clear hs hmap hm hda hdh hdi
  go_enter Tryz.func68, Tryz.ntmps68
  go_wp2_with (first
    | (at_range; refine wpList_range_own _ rfl _ 66 rfl 9 90 law9 Tryz.underlying66 _ mb n _ rfl HM.out ?_; intro w0 hrg0 hg0 hs0)
    | go_in)
  go_frame
  have HRG0 : Hid (w0.ranges Tryz.prog 9 regE mb w.heap.size n D (Maps.has D) (Maps.size D)) := hrg0
  have HG0 : Hid (w.grownBy w0 none) := hg0
  have HS0 : Hid (w0.heap.size = w.heap.size + 1) := hs0
  clear hrg0 hg0 hs0
  go_loopw [5] (fun v wr' => ∃ (left : Lit → Bool) (cnt : Nat) (l : List ByteArray), wr'.ranges Tryz.prog 9 regE mb w.heap.size n D left cnt ∧ Seen D left cnt p l ∧ SOwn strE 9 wr' (w.heap.size + 1) v l.length l ∧ w.grownBy wr' none)
    (fun _ wr' => wr'.rangeLeft mb w.heap.size)
  case atStart =>
    refine ⟨_, _, [], HRG0.out, ⟨fun s => ?_, List.nodup_nil, by simp⟩, SOwn.nil 9 _ _, HG0.out⟩
    constructor
    · intro hs; cases hs
    · rintro ⟨h1, h2, _⟩; rw [h1] at h2; cases h2
  case round =>
    obtain ⟨left, cnt, l, hrg, hse, hso, hgw⟩ := hrel
    obtain ⟨L, eL⟩ : ∃ L, L = l.length := ⟨_, rfl⟩
    rw [← eL] at hso
    obtain ⟨a5, k5, rfl⟩ := sown_sliceT hso
    have EL : Hid (L = l.length) := eL
    have HRG : Hid (wr.ranges Tryz.prog 9 regE mb w.heap.size n D left cnt) := hrg
    have HSE : Hid (Seen D left cnt p l) := hse
    have HSO : Hid (SOwn strE 9 wr (w.heap.size + 1) (.slice a5 L k5) L l) := hso
    have HGW : Hid (w.grownBy wr none) := hgw
    have hLn : L + cnt ≤ 4194304 := by have h1 := hse.count; have h2 := HSZ.out; omega
    have HLW : Hid (w.heap.size + 1 ≤ wr.heap.size) := by have h1 := hrg.lt; exact h1
    clear hrg hse hso hgw HRG0 HG0 eL
    go_wp2_with (first
      | (at_next; refine wpList_next_ranges _ rfl _ rfl 9 law9 regE Value.string regV0 (fun key kl hkey => by obtain ⟨x, hx, _⟩ := str_inv hkey; exact ⟨x, hx⟩) (fun v y hv => reg_invV hv) mb w.heap.size n _ _ _ rfl HRG.out ?_ ?_)
      | go_in)
    · intro _ hl0
      go_wp2_with fail
      refine (d_sortAny (w.heap.size + 1) L _ l wr HSO.out (by omega)).mono ?_
      rintro e w4 ⟨rfl, ho4, hg4⟩
      have HO4 : Hid (SOwn strE 9 w4 (w.heap.size + 1) (.slice a5 L k5) L (srt l)) := ho4
      have HG4 : Hid (w.grownBy w4 none) := gb_trans HGW.out hg4 (fun k hk => .inl (by have := (SOwn.block HSO.out k hk).1; omega))
      clear ho4 hg4
      go_wp2
      go_ret
      have hsl := srt_len l
      refine ⟨a5, k5, srt l, by rw [hsl, ← EL.out]; rfl, by rw [hsl, ← EL.out]; exact SOwn.base HO4.out (Nat.le_succ _), HG4.out, ⟨srt_nodup HSE.out.nodup, srt_pair l, fun s => (srt_mem l s).trans ?_⟩, by have h1 := HSE.out.count; have h2 := HSZ.out; omega⟩
      rw [HSE.out.mem s, HDV.out s]
      simp [hl0]
    · intro x ov os kl yd yp w1 cnt1 hkey hlk hv hat hrg1 hlt hg1 hs1 hen
      obtain ⟨x', ex, rfl, _⟩ := str_inv hkey
      cases ex
      have hhas : Maps.has D (kn x) = true := has_true_of_atKey hat
      have HSE1 : Hid (Seen D (fun z => left z && !z.sameKey (kn x)) cnt1 p (if Lib.hasPrefix x.data.toList p.data.toList = true then l ++ [x] else l)) := HSE.out.step hhas hlk hlt
      have HRG1 : Hid (w1.ranges Tryz.prog 9 regE mb w.heap.size n D (fun z => left z && !z.sameKey (kn x)) cnt1) := hrg1
      have HG1 : Hid (w.grownBy w1 none) := gb_trans HGW.out hg1 (fun k hk => .inl (by cases hk; exact Nat.le_refl _))
      have HSO1 : Hid (SOwn strE 9 w1 (w.heap.size + 1) (.slice a5 L k5) L l) := SOwn.kept HSO.out hg1 (.inr (fun e => by have := (SOwn.block HSO.out _ e).1; omega))
      have HLT1 : Hid (cnt1 < cnt) := hlt
      have HLW1 : Hid (w.heap.size + 1 ≤ w1.heap.size) := by show _ ≤ _; rw [hs1]; exact HLW.out
      have hen' : (Instr.entry (.pointer (some ⟨w.heap.size, 0, none⟩))).run Tryz.prog w1 = .ok (.tuple #[.string x, regV0 (ov, os)]) w1 := hen
      clear hkey hlk hv hat hrg1 hlt hg1 hs1 hen hhas HSE HSO HGW HLW
      go_wp2_with fail
      refine (d_prefix x p w1).mono ?_
      rintro e w2 ⟨rfl, rfl⟩
      by_cases hp : Lib.hasPrefix x.data.toList p.data.toList = true
      · rw [hp]
        rw [if_pos hp] at HSE1
        go_wp2_with (at_builtin; refine wpList_append_s strET rfl (.tmp 19) (.tmp 21) rfl (w.heap.size + 1) (.slice a5 L k5) L l rfl (SOwn.kept HSO1.out (World.grownBy_alloc w1 _ none) (by cases a5 <;> simp [Value.ownBlock])) (some ⟨w1.heap.size, 0, none⟩) [x] 1 1 rfl rfl (slit w1 [x]) (by simp) (by omega) (by unfold maxLen; omega) (Nat.le_of_lt (by rw [show ((w1.alloc (.cells #[.string x] 9)).heap.size) = w1.heap.size + 1 from Array.size_push _]; have := HLW1.out; omega)) ?_; intro v3 w3 ho3 hg3 hn3)
        have HO3 : Hid (SOwn strE 9 w3 (w.heap.size + 1) v3 (L + 1) (l ++ [x])) := ho3
        have HG13 : Hid (w1.grownBy w3 (Value.ownBlock (.slice a5 L k5))) := (gb_any (World.grownBy_alloc w1 _ none) _).trans hg3
        clear ho3 hg3 hn3
        have hrg3 := HRG1.out.kept HG13.out (row_ne_low HSO1.out (Nat.lt_succ_of_lt HMB.out)) (row_ne_low HSO1.out (Nat.lt_succ_self _))
        have hg3 : w.grownBy w3 none := gb_trans HG1.out HG13.out (fun k hk => .inl (by have := (SOwn.block HSO1.out k hk).1; omega))
        refine ⟨⟨_, cnt1, l ++ [x], hrg3, HSE1.out, ?_, hg3⟩, ?_⟩
        · rw [List.length_append, ← EL.out]
          exact HO3.out
        · rw [HRG.out.left_eq, hrg3.left_eq]
          exact HLT1.out
      · have hpf : Lib.hasPrefix x.data.toList p.data.toList = false := by simpa using hp
        rw [hpf]
        rw [if_neg hp] at HSE1
        go_wp2
        refine ⟨⟨_, cnt1, l, HRG1.out, HSE1.out, ?_, HG1.out⟩, ?_⟩
        · rw [← EL.out]
          exact HSO1.out
        · rw [HRG.out.left_eq, HRG1.out.left_eq]
          exact HLT1.out
end Go.Proofs.YtgpgkpciajajcaaGreatDoor

/- Package wal: whether a text is a folder's name; the number of a file; is there a file for the open segment? -/
namespace Go.Proofs.YtgpgkpciajajcaaGreatDoor
open Go.RowKit Go.Maps Go.Sort
set_option linter.unusedVariables false
set_option maxRecDepth 20000

def intE : Elem Int where
  cells z := [.int .i64 z]
  size := 1
  pos := by decide
  len _ := rfl
  one z v h := by
    simp only [List.mem_cons, List.mem_nil_iff, or_false] at h
    subst h
    rfl
theorem intE_flat (zs : List Int) : intE.flat zs = zs.map (Value.int .i64) := by
  unfold Elem.flat
  induction zs with
  | nil => rfl
  | cons z r ih => rw [List.flatMap_cons, ih]; rfl
theorem info3 : (Tryz.prog.info? 3).map (fun i => (i.zero, i.size, i.bytes)) = some (some (.int .i64 0), 1, 8) := by kernel_rfl
theorem intET : ElemOf intE Tryz.prog 44 3 8 := by
  obtain ⟨i0, hi, hz0, hz1, hz2⟩ := info_parts info3
  exact ⟨Tryz.underlying44, i0, _, hi, hz0, hz1, hz2, rfl⟩
def nI (l : List Nat) : List Int := l.map Int.ofNat
theorem nI_len (l : List Nat) : (nI l).length = l.length := by simp [nI]
theorem nI_get {l : List Nat} {i k : Nat} (h : l[i]? = some k) : (nI l)[i]? = some (k : Int) := by simp [nI, h]
theorem nI_app (l r : List Nat) : nI (l ++ r) = nI l ++ nI r := by simp [nI]
theorem w_numNo (s p : ByteArray) (h : Lib.hasPrefix s.data.toList p.data.toList = false) (w : World) : Calls Tryz.prog 170 #[.string s, .string p] w fun e w' => e = .returned (.tuple #[.int .i64 0, .bool false]) ∧ w = w' := by
  have HC := Tryz.strings_CutPrefix s p w
  rw [h] at HC
  clear h
  go_enter Tryz.func170, Tryz.ntmps170
  go_wp2_with fail
  refine HC.mono ?_
  rintro e w1 ⟨rfl, rfl⟩
  go_wp2
  go_ret2
  exact ⟨rfl, rfl⟩
set_option maxHeartbeats 2000000 in
theorem w_numYes (s p : ByteArray) (k : Nat) (hk : k < 100000000) (h : s.data.toList = p.data.toList ++ d8 k) (w : World) : Calls Tryz.prog 170 #[.string s, .string p] w fun e w' => e = .returned (.tuple #[.int .i64 (k : Int), .bool true]) ∧ w.grownBy w' none := by
  have HC := Tryz.strings_CutPrefix s p w
  have hp : Lib.hasPrefix s.data.toList p.data.toList = true := by rw [h]; exact has_app _ _
  have ht : Lib.trimPrefix s.data.toList p.data.toList = d8 k := by
    unfold Lib.trimPrefix
    rw [if_pos hp, h]
    simp
  rw [hp, ht] at HC
  have HP : Hid (Calls Tryz.prog 187 #[.string ⟨(d8 k).toArray⟩, .int .i64 10, .int .i64 32] w fun e w' => e = .returned (.tuple #[.int .u64 (k : Int), .nilIface]) ∧ w.grownBy w' none) := w_parse ⟨(d8 k).toArray⟩ k rfl hk w
  have q8 : (ByteArray.size ⟨(d8 k).toArray⟩) = 8 := by show (d8 k).toArray.size = 8; simp [d8_len]
  have qw : IntKind.i64.wrap (k : Int) = (k : Int) := by simp [IntKind.wrap, IntKind.bits, IntKind.signed]; omega
  clear h hp ht
  go_enter Tryz.func170, Tryz.ntmps170
  go_wp2_with fail
  refine HC.mono ?_
  rintro e w1 ⟨rfl, rfl⟩
  go_wp2_with fail
  refine HP.out.mono ?_
  rintro e w2 ⟨rfl, hg2⟩
  have HG2 : Hid (w1.grownBy w2 none) := hg2
  clear hg2
  go_wp2
  go_region
  all_goals go_wp2
  all_goals go_ret2
  all_goals exact ⟨rfl, gb_drewR HG2.out _⟩
theorem w_readBad (d mb n : Nat) (F : ByteArray → Option Nat) (s : ByteArray) (c : Int) (w : World) (hr : DRow w d mb false false 0 0 0) (hm : MapIs w mb n F) (hF : F s = none) (hs : (s.size : Int) ≤ 9223372036854775807) (hc : c = if nameB s = true then 62 else 61) :
    Calls Tryz.prog 133 #[.pointer (some ⟨d, 0, none⟩), .string s] w fun e w' => e = .returned (.tuple #[.slice none 0 0, .int .i64 c]) ∧ w.grownBy w' none := by
  have HF : Hid (Calls Tryz.prog 135 #[.pointer (some ⟨d, 0, none⟩), .string s] w fun e w' => e = .returned (.tuple #[.pointer none, .int .i64 c]) ∧ w.grownBy w' none) := by
    have := d_find d mb n false false 0 0 0 F s w hr hm hs
    subst hc
    cases hn : nameB s with
    | true =>
      rw [show findP false F s = none by simp [findP, hF], show findC false F s = 62 by simp [findC, hn, hF]] at this
      exact this
    | false =>
      rw [show findP false F s = none by simp [findP, hn], show findC false F s = 61 by simp [findC, hn]] at this
      exact this
  have q0 : (c != 0) = true := by subst hc; split <;> rfl
  clear hr hm hF hc
  go_enter Tryz.func133, Tryz.ntmps133
  go_wp2_with fail
  refine HF.out.mono ?_
  rintro e w1 ⟨rfl, hg1⟩
  have HG1 : Hid (w.grownBy w1 none) := hg1
  clear hg1
  go_wp2
  go_ret2
  exact ⟨rfl, HG1.out⟩
set_option maxHeartbeats 1000000 in
theorem w_isFolder (s : ByteArray) (hs : (s.size : Int) ≤ 9223372036854775807) (w : World) : Calls Tryz.prog 119 #[.string s] w fun e w' => e = .returned (.bool (dirB s)) ∧ w.grownBy w' none := by
  have HN := d_isName s hs w
  go_enter Tryz.func119, Tryz.ntmps119
  cases hn : nameB s with
  | true =>
    rw [hn] at HN
    have HE : Hid (dirB s = decide ((s.size : Int) ≤ 32)) := by show dirB s = _; unfold dirB; rw [hn]; simp; omega
    go_wp2_with fail
    refine HN.mono ?_
    rintro e w1 ⟨rfl, rfl⟩
    go_wp2
    go_ret
    exact ⟨ret_bool HE.out.symm, World.grownBy.refl _ _⟩
  | false =>
    rw [hn] at HN
    have HE : Hid (dirB s = false) := by show dirB s = _; unfold dirB; rw [hn]; rfl
    go_wp2_with fail
    refine HN.mono ?_
    rintro e w1 ⟨rfl, rfl⟩
    go_wp2
    go_ret
    exact ⟨ret_bool HE.out.symm, World.grownBy.refl _ _⟩
theorem nI_cell {w : World} {a : Option Addr} {l : List Nat} (h : SRd intE w a (nI l)) {i k : Nat} (hi : l[i]? = some k) : ∃ b off, a = some ⟨b, off, none⟩ ∧ w.cell? ⟨b, off + i, none⟩ = some (.int .i64 (k : Int)) := by
  have hl : 0 < (nI l).length := by rw [nI_len]; have := (List.getElem?_eq_some_iff.1 hi).1; omega
  obtain ⟨b, off, e, hc⟩ := h.at hl
  refine ⟨b, off, e, ?_⟩
  have := hc i (k : Int) 0 (.int .i64 (k : Int)) (nI_get hi) rfl
  rw [show i * intE.size + 0 = i from Nat.mul_one i] at this
  exact this
def isOpen (segs : List Nat) (op : Nat) : Bool := decide (segs.getLast? = some op)
set_option maxHeartbeats 2000000 in
theorem w_hasFile (p d : Nat) (dir cp : ByteArray) (a : Option Addr) (c : Nat) (segs : List Nat) (op : Nat) (w : World) (h : WRow w p d dir cp (.slice a segs.length c) (op : Int)) (hr : SRd intE w a (nI segs)) (hn : (segs.length : Int) ≤ 4611686018427387904) :
    Calls Tryz.prog 101 #[.pointer (some ⟨p, 0, none⟩)] w fun e w' => e = .returned (.bool (isOpen segs op)) ∧ ∃ k, w' = w.drewN k := by
  obtain ⟨c0, c1, c2, c3, c4⟩ := h.cells
  clear h c0 c1 c2
  rcases Nat.eq_zero_or_pos segs.length with h0 | h0
  · have hs : segs = [] := List.eq_nil_of_length_eq_zero h0
    have HE : Hid (isOpen segs op = false) := by show isOpen segs op = _; rw [hs]; simp [isOpen]
    rw [h0] at c3
    have hd : decide ((0 : Int) ≤ -1) = false := by decide
    clear hr hn h0 hs
    go_enter Tryz.func101, Tryz.ntmps101
    go_wp2
    go_quiet (fail)
    go_wp2
    go_ret
    exact ⟨ret_bool HE.out.symm, _, rfl⟩
  · obtain ⟨k, hk⟩ : ∃ k, segs[segs.length - 1]? = some k := ⟨_, List.getElem?_eq_getElem (by omega)⟩
    obtain ⟨b, off, rfl, hc⟩ := nI_cell hr hk
    have HE : Hid (isOpen segs op = decide ((k : Int) = (op : Int))) := by
      show isOpen segs op = _
      unfold isOpen
      rw [List.getLast?_eq_getElem?, hk]
      simp [Int.ofNat_inj]
    obtain ⟨L, eL⟩ : ∃ L, segs.length = L + 1 := ⟨segs.length - 1, by omega⟩
    rw [eL] at c3 hn
    rw [eL, show L + 1 - 1 = L from rfl] at hc
    have q1 : decide ((0 : Int) ≤ (L : Int)) = true := by simp
    have q2 : (L : Int) < (L : Int) + 1 := by omega
    have q3 : (0 : Int) ≤ (L : Int) := by omega
    clear hr hk h0
    go_enter Tryz.func101, Tryz.ntmps101
    go_wp2
    go_quiet (fail)
    go_wp2
    go_ret
    exact ⟨ret_bool HE.out.symm, _, rfl⟩
end Go.Proofs.YtgpgkpciajajcaaGreatDoor

