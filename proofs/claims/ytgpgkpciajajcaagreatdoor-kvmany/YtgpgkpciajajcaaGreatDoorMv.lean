/- Several texts in one: Kg, Xd, Kh, Ki. -/
import Derived.Test.YtgpgkpciajajcaaGreatDoorMu
/- Package kv: Open, reach, find, Get, Keys; keep, forget. -/
namespace Go.Proofs.YtgpgkpciajajcaaGreatDoor
open Go.RowKit Go.Maps Go.Sort
set_option linter.unusedVariables false
set_option maxRecDepth 20000

theorem x_upK {w : World} {base d mb n : Nat} {x : DSt} {B : Nat → Prop} (h : DS w base d mb n x B) : Calls Tryz.prog 10 #[.pointer (some ⟨d, 0, none⟩)] w fun e w' => e = .returned (.bool !x.off) ∧ w = w' := by
  obtain ⟨F, G, hd, _⟩ := h
  exact d_up d mb _ _ _ _ _ w hd.row
theorem neq_map66 (mr : Nat) (w : World) : (binOp .neq 66 (.map (some mr)) (.map none)).run Tryz.prog w = .ok (.bool true) w := by kernel_rfl
theorem neq_map66n (w : World) : (binOp .neq 66 (.map none) (.map none)).run Tryz.prog w = .ok (.bool false) w := by kernel_rfl
/-- reach, where the registers are known. -/
theorem k_reach {w : World} {base d mb n : Nat} {x : DSt} {B : Nat → Prop} (sb mr : Nat) (x0 : Value) (h : DS w base d mb n x B) (hon : x.off = false) (hs : TriAt w sb x0 (.pointer (some ⟨d, 0, none⟩)) (.map (some mr))) :
    Calls Tryz.prog 25 #[.pointer (some ⟨sb, 0, none⟩)] w fun e w' => e = .returned (.int .i64 0) ∧ w = w' := by
  have HU := x_upK h
  rw [hon] at HU
  have HU' : Hid (Calls Tryz.prog 10 #[.pointer (some ⟨d, 0, none⟩)] w fun e w' => e = .returned (.bool true) ∧ w = w') := HU
  have c1 := hs.c1
  have c2 := hs.c2
  have hne := neq_map66 mr
  clear h hon hs HU
  go_enter Tryz.func25, Tryz.ntmps25
  go_wp2_with fail
  refine HU'.out.mono ?_
  rintro e w1 ⟨rfl, rfl⟩
  go_wp2
  go_ret
  exact ⟨rfl, rfl⟩
/-- reach, where the disk is off. -/
theorem k_reachOff {w : World} {base d mb n : Nat} {x : DSt} {B : Nat → Prop} (sb : Nat) (x0 z0 : Value) (h : DS w base d mb n x B) (hon : x.off = true) (hs : TriAt w sb x0 (.pointer (some ⟨d, 0, none⟩)) z0) :
    Calls Tryz.prog 25 #[.pointer (some ⟨sb, 0, none⟩)] w fun e w' => e = .returned (.int .i64 60) ∧ w = w' := by
  have HU := x_upK h
  rw [hon] at HU
  have HU' : Hid (Calls Tryz.prog 10 #[.pointer (some ⟨d, 0, none⟩)] w fun e w' => e = .returned (.bool false) ∧ w = w') := HU
  have c1 := hs.c1
  clear h hon hs HU
  go_enter Tryz.func25, Tryz.ntmps25
  go_wp2_with fail
  refine HU'.out.mono ?_
  rintro e w1 ⟨rfl, rfl⟩
  go_wp2
  go_ret
  exact ⟨rfl, rfl⟩
/-- What Open answers of a log that says these registers. -/
theorem k_open {W w : World} {d mb n : Nat} {x : DSt} {K : Kp} {Ls : Sg} {B : Nat → Prop} (rs : List (ByteArray × Reg)) (h : De W w d mb n x dirK K Ls B) (hrs : cpRecs K ++ recsOf Ls = recsL rs) (hok : AllOk rs) (hn : n ≤ 4194304) (hlen : rs.length ≤ 4194304) (hln : Ls.length ≤ 4194304) :
    Calls Tryz.prog 8 #[.pointer (some ⟨d, 0, none⟩)] w fun e w' => ∃ sb p mr A, e = .returned (.tuple #[.pointer (some ⟨sb, 0, none⟩), .int .i64 0]) ∧ KvAt W w' d mb n x sb p mr rs.length K Ls A B (regs rs) rs ∧ w.grownBy w' none ∧ (∀ k, A k → w.heap.size ≤ k) ∧ w.heap.size ≤ sb ∧ w.heap.size ≤ mr := by
  obtain ⟨W1, eW1⟩ : ∃ W1, W1 = w.alloc (.cells #[.pointer none, .pointer (some ⟨d, 0, none⟩), .map none] 68) := ⟨_, rfl⟩
  have hg1 : w.grownBy W1 none := by rw [eW1]; exact World.grownBy_alloc w _ none
  have hz1 : W1.heap.size = w.heap.size + 1 := by rw [eW1]; exact Array.size_push _
  have hT : TriAt W1 w.heap.size (.pointer none) (.pointer (some ⟨d, 0, none⟩)) (.map none) := by rw [eW1]; exact TriAt.new w _ _ _
  have hD := h.grown hg1
  have HRP : Hid (Calls Tryz.prog 49 #[.pointer (some ⟨w.heap.size, 0, none⟩)] W1 fun e w' => e = .returned (.int .i64 0) ∧ ∃ p mr A, KvAt W w' d mb n x w.heap.size p mr rs.length K Ls A B (regs rs) rs ∧ W1.grownBy w' (some w.heap.size) ∧ (∀ k, A k → W1.heap.size ≤ k) ∧ W1.heap.size ≤ mr) :=
    k_replay w.heap.size _ _ rs hD hT (fun hb => by have := h.ltB _ hb; omega) h.from_.size hrs hok hn hlen hln
  have HU0 := x_upK hD.disk
  rw [h.calm.on] at HU0
  have HU : Hid (Calls Tryz.prog 10 #[.pointer (some ⟨d, 0, none⟩)] W1 fun e w' => e = .returned (.bool true) ∧ W1 = w') := HU0
  have HR : Hid (Calls Tryz.prog 25 #[.pointer (some ⟨w.heap.size, 0, none⟩)] W1 fun e w' => e = .returned (.int .i64 0) ∧ ∃ p mr A, KvAt W w' d mb n x w.heap.size p mr rs.length K Ls A B (regs rs) rs ∧ W1.grownBy w' (some w.heap.size) ∧ (∀ k, A k → W1.heap.size ≤ k) ∧ W1.heap.size ≤ mr) := by
    have c1 := hT.c1
    have c2 := hT.c2
    have hne := neq_map66n
    clear hT hD h HU0 hrs hok hn hlen hln eW1
    go_enter Tryz.func25, Tryz.ntmps25
    go_wp2_with fail
    refine HU.out.mono ?_
    rintro e w1 ⟨rfl, rfl⟩
    go_wp2_with fail
    refine HRP.out.mono ?_
    rintro e w1 ⟨rfl, hx⟩
    have HX : Hid (∃ p mr A, KvAt W w1 d mb n x w.heap.size p mr rs.length K Ls A B (regs rs) rs ∧ W1.grownBy w1 (some w.heap.size) ∧ (∀ k, A k → W1.heap.size ≤ k) ∧ W1.heap.size ≤ mr) := hx
    clear hx
    go_wp2
    go_ret
    exact ⟨rfl, HX.out⟩
  have HG1 : Hid (w.grownBy W1 none) := hg1
  have HZ1 : Hid (W1.heap.size = w.heap.size + 1) := hz1
  clear hT hD h HU0 hrs hok hn hlen hln HRP HU hg1 hz1
  go_enter Tryz.func8, Tryz.ntmps8
  go_upto_region 2 with fail
  rw [← eW1]
  clear eW1
  go_wp2_with fail
  refine HR.out.mono ?_
  rintro e w1 ⟨rfl, p, mr, A, hx, hg, hA, hm⟩
  have HX : Hid (KvAt W w1 d mb n x w.heap.size p mr rs.length K Ls A B (regs rs) rs ∧ W1.grownBy w1 (some w.heap.size) ∧ (∀ k, A k → W1.heap.size ≤ k) ∧ W1.heap.size ≤ mr) := ⟨hx, hg, hA, hm⟩
  clear hx hg hA hm
  go_wp2
  go_ret2
  have hz := HZ1.out
  exact ⟨_, p, mr, A, rfl, HX.out.1, gb_trans HG1.out HX.out.2.1 (fun k hk => .inl (by cases hk; exact Nat.le_refl _)), fun k hk => by have := HX.out.2.2.1 k hk; omega, Nat.le_refl _, by have := HX.out.2.2.2; omega⟩
/-- find. -/
theorem k_find {w : World} {base d mb n m : Nat} {x : DSt} {B : Nat → Prop} {F : ByteArray → Option Reg} (sb mr : Nat) (x0 : Value) (k : ByteArray) (h : DS w base d mb n x B) (hon : x.off = false) (hs : TriAt w sb x0 (.pointer (some ⟨d, 0, none⟩)) (.map (some mr))) (hm : RegIs w mr m F) (hk : kB k = true) :
    Calls Tryz.prog 41 #[.pointer (some ⟨sb, 0, none⟩), .string k] w fun e w' => e = .returned (.tuple #[regV (F k), .int .i64 0]) ∧ w.grownBy w' none := by
  have hks := kB_size hk
  obtain ⟨W1, eW1⟩ : ∃ W1, W1 = w.alloc (.cells #[.int .u64 0, .string ⟨#[]⟩] 90) := ⟨_, rfl⟩
  have hg1 : w.grownBy W1 none := by rw [eW1]; exact World.grownBy_alloc w _ none
  have HB : Hid (RgAt W1 w.heap.size (.int .u64 0) (.string ⟨#[]⟩)) := by show RgAt _ _ _ _; rw [eW1]; exact RgAt.new w _ _
  have HG1 : Hid (w.grownBy W1 none) := hg1
  have HK : Hid (Calls Tryz.prog 69 #[.string k] W1 fun e w' => e = .returned (.bool true) ∧ W1 = w') := by
    have := k_isKey k (by omega) W1
    rw [hk] at this
    exact this
  have HR : Hid (Calls Tryz.prog 25 #[.pointer (some ⟨sb, 0, none⟩)] W1 fun e w' => e = .returned (.int .i64 0) ∧ W1 = w') := k_reach sb mr x0 (DV.kept h hg1) hon (hs.grown hg1)
  have hlook := (hm.kept hg1 (by simp)).look k (by omega)
  have s2 := (hs.grown hg1).c2
  have hV : ∃ rv rd, regV (F k) = .agg #[.int .u64 (rv : Int), .string rd] := ⟨_, _, rfl⟩
  obtain ⟨rv', rd', hV⟩ := hV
  rw [hV] at hlook ⊢
  have c0 := HB.out.c0
  have c1 := HB.out.c1
  have f0 := HB.out.f0
  have f1 := HB.out.f1
  clear h hon hs hm hk hks hg1 hV
  go_enter Tryz.func41, Tryz.ntmps41
  go_upto_region 1 with fail
  rw [← eW1]
  clear eW1
  go_wp2_with fail
  refine HK.out.mono ?_
  rintro e w1 ⟨rfl, rfl⟩
  go_wp2_with fail
  refine HR.out.mono ?_
  rintro e w1 ⟨rfl, rfl⟩
  go_wp2
  exact bodyPost_ret (results_cell2 Tryz.results41 _ _ _ _ _ rfl (HB.out.set _ _).var) rfl ⟨rfl, gb_pair HG1.out (Nat.le_refl _) _ _⟩
/-- find, of what is no key. -/
theorem k_findNot (sb : Nat) (k : ByteArray) (w : World) (hk : kB k = false) (hs : (k.size : Int) ≤ 9223372036854775807) :
    Calls Tryz.prog 41 #[.pointer (some ⟨sb, 0, none⟩), .string k] w fun e w' => e = .returned (.tuple #[.agg #[.int .u64 0, .string ⟨#[]⟩], .int .i64 120]) ∧ w.grownBy w' none := by
  obtain ⟨W1, eW1⟩ : ∃ W1, W1 = w.alloc (.cells #[.int .u64 0, .string ⟨#[]⟩] 90) := ⟨_, rfl⟩
  have HB : Hid (RgAt W1 w.heap.size (.int .u64 0) (.string ⟨#[]⟩)) := by show RgAt _ _ _ _; rw [eW1]; exact RgAt.new w _ _
  have HG1 : Hid (w.grownBy W1 none) := by show w.grownBy W1 none; rw [eW1]; exact World.grownBy_alloc w _ none
  have HK : Hid (Calls Tryz.prog 69 #[.string k] W1 fun e w' => e = .returned (.bool false) ∧ W1 = w') := by
    have := k_isKey k hs W1
    rw [hk] at this
    exact this
  have c0 := HB.out.c0
  have c1 := HB.out.c1
  have f0 := HB.out.f0
  have f1 := HB.out.f1
  clear hk hs
  go_enter Tryz.func41, Tryz.ntmps41
  go_upto_region 1 with fail
  rw [← eW1]
  clear eW1
  go_wp2_with fail
  refine HK.out.mono ?_
  rintro e w1 ⟨rfl, rfl⟩
  go_wp2
  exact bodyPost_ret (results_cell2 Tryz.results41 _ _ _ _ _ rfl (HB.out.set _ _).var) rfl ⟨rfl, gb_pair HG1.out (Nat.le_refl _) _ _⟩
end Go.Proofs.YtgpgkpciajajcaaGreatDoor

/- A log that is written and opened, again and again. -/
namespace Go.Proofs.YtgpgkpciajajcaaGreatDoor
open Go.RowKit Go.Maps Go.Sort
set_option linter.unusedVariables false
set_option maxRecDepth 20000

theorem addL_len (K : Kp) (Ls : Sg) (r : List Int) : (addL K Ls r).length ≤ Ls.length + 1 := by
  unfold addL
  cases h : Ls.getLast? with
  | none => simp
  | some q =>
    dsimp only
    split
    · simp
    · simp only [List.length_append, List.length_dropLast, List.length_cons, List.length_nil]
      omega
theorem rollX_le (x : DSt) (dir : ByteArray) (op : Nat) : (rollX x dir op).2 ≤ op + 1 := by
  unfold rollX
  split
  · exact Nat.le_succ _
  · split
    · exact Nat.le_refl _
    · exact Nat.le_succ _
/-- Slices that hold records in the world W. -/
def ToldIn (W : World) (tt : List Sl) (rs : List (List Int)) : Prop := tt.length = rs.length ∧ ∀ (i : Nat) (t : Sl) (r : List Int), tt[i]? = some t → rs[i]? = some r → t.2.1 = r.length ∧ Rd W t.1 r ∧ r.length ≤ 140737488355000
theorem ToldIn.add {W : World} {tt : List Sl} {rs : List (List Int)} (h : ToldIn W tt rs) (t : Sl) (r : List Int) (h1 : t.2.1 = r.length) (h2 : Rd W t.1 r) (h3 : r.length ≤ 140737488355000) : ToldIn W (tt ++ [t]) (rs ++ [r]) := by
  refine ⟨by simp [h.1], fun i t' r' ht hr => ?_⟩
  rcases Nat.lt_or_ge i tt.length with hi | hi
  · rw [List.getElem?_append_left hi] at ht
    rw [List.getElem?_append_left (by rw [← h.1]; exact hi)] at hr
    exact h.2 i t' r' ht hr
  · rw [List.getElem?_append_right hi] at ht
    rw [List.getElem?_append_right (by rw [← h.1]; exact hi)] at hr
    have h0 : i - tt.length = 0 := by
      have := (List.getElem?_eq_some_iff.1 ht).1
      simp at this
      omega
    rw [h0] at ht
    rw [← h.1, h0] at hr
    simp at ht hr
    subst ht hr
    exact ⟨h1, h2, h3⟩
/-- The log behind i records, and what was told of them. -/
def TwAt (W wr : World) (d mb i : Nat) (m : Int) (p : Nat) (v : Sl) (rs : List (List Int)) (tl : List (List Int)) : Prop := ∃ (n : Nat) (x : DSt) (Ls : Sg) (A B : Nat → Prop) (tt : List Sl),
  Se W wr d mb n x p dirX none Ls A B ∧ recsOf Ls = rs ∧ ToldIn W tt tl ∧ SOwn slE 37 wr W.heap.size (slV v) tl.length tt ∧ (∀ k, (slV v).ownBlock = some k → ¬ A k ∧ ¬ B k) ∧ n ≤ i ∧ x.wn ≤ m ∧ openN none Ls ≤ i + 1 ∧ Ls.length ≤ i ∧ rs.length ≤ i
theorem TwAt.grown {W w w' : World} {d mb i p : Nat} {m : Int} {v : Sl} {rs tl : List (List Int)} (h : TwAt W w d mb i m p v rs tl) (hg : w.grownBy w' none) : TwAt W w' d mb i m p v rs tl := by
  obtain ⟨n, x, Ls, A, B, tt, h1, h2, h3, h4, h5⟩ := h
  exact ⟨n, x, Ls, A, B, tt, h1.grown hg, h2, h3, SOwn.kept h4 hg (by cases h : (slV v).ownBlock <;> simp), h5⟩
theorem TwAt.from_ {W w : World} {d mb i p : Nat} {m : Int} {v : Sl} {rs tl : List (List Int)} (h : TwAt W w d mb i m p v rs tl) : W.grownBy w none := by
  obtain ⟨n, x, Ls, A, B, tt, h1, _⟩ := h
  exact h1.from_
theorem TwAt.more {W w : World} {d mb i i' p : Nat} {m m' : Int} {v : Sl} {rs tl : List (List Int)} (h : TwAt W w d mb i m p v rs tl) (hi : i ≤ i') (hm : m ≤ m') : TwAt W w d mb i' m' p v rs tl := by
  obtain ⟨n, x, Ls, A, B, tt, h1, h2, h3, h4, h5, h6, h7, h8, h9, h10⟩ := h
  exact ⟨n, x, Ls, A, B, tt, h1, h2, h3, h4, h5, by omega, by omega, by omega, by omega, by omega⟩
theorem sown_keptK {α : Type} {E : Elem α} {e : TypeId} {w w' : World} {base n : Nat} {v : Value} {l : List α} {X : Nat → Prop} (h : SOwn E e w base v n l) (hk : Kept w w' X) (hX : ∀ k, v.ownBlock = some k → ¬ X k) : SOwn E e w' base v n l := by
  refine ⟨h.1, ?_⟩
  rcases h.2 with h5 | ⟨g, cap, cur, rfl, k1, k2, k3⟩
  · exact .inl h5
  · refine .inr ⟨g, cap, cur, rfl, k1, ?_, k3⟩
    rw [hk.block g (by have := (Array.getElem?_eq_some_iff.1 k2).1; exact this) (hX g rfl)]
    exact k2
/-- Append. -/
theorem tw_append {W w : World} {d mb i p : Nat} {m : Int} {v : Sl} {rs tl : List (List Int)} (h : TwAt W w d mb i m p v rs tl) (a : Option Addr) (r : List Int) (L c : Nat) (hr : Rd w a r) (hL : r.length = L) (hnil : a = none → c = 0) (hz : L ≤ 65536) (hi : i < 1048576) (hm : m ≤ 999999900) :
    Calls Tryz.prog 73 #[.pointer (some ⟨p, 0, none⟩), .slice a L c] w fun e w' => e = .returned (.int .i64 0) ∧ TwAt W w' d mb (i + 1) (m + 2) p v (rs ++ [r]) tl := by
  obtain ⟨n, x, Ls, A, B, tt, h1, h2, h3, h4, h5, h6, h7, h8, h9, h10⟩ := h
  have had := log_add (rec := r) h1.log h1.calm (by omega) (by omega) (by omega)
  refine (s_append h1 dirX_ok a r L c (by omega) (by omega) (by omega) (by omega) hr hL hnil hz).mono ?_
  rintro e w' ⟨rfl, n', A', B', k1, k2, k3, k4⟩
  have hop : openN none (addL none Ls r) ≤ i + 1 + 1 := by
    rw [← had.op]
    have := rollX_le x dirX (openN none Ls)
    omega
  refine ⟨rfl, n', _, _, A', B', tt, k3, by rw [recsOf_add, h2], h3, sown_keptK h4 k4.kept (fun k hk => by have := h5 k hk; exact fun h => h.elim this.1 this.2), fun k hk => ?_, by omega, by omega, hop, ?_, by simp; omega⟩
  · have hkl := (h4.block k hk).2
    have := h5 k hk
    exact ⟨fun ha => this.1 (k4.oldA k hkl ha), fun hb => this.2 (k4.oldB k hkl hb)⟩
  · have := addL_len none Ls r
    omega
/-- What was told, a record longer. -/
theorem TwAt.told {W w w' : World} {d mb i p : Nat} {m : Int} {v v' : Sl} {rs tl : List (List Int)} {tt : List Sl} {r : List Int} {t : Sl} (h : TwAt W w d mb i m p v rs tl) (ht : ToldIn W tt tl) (ho : SOwn slE 37 w' W.heap.size (slV v') (tl.length + 1) (tt ++ [t])) (hg : w.grownBy w' (slV v).ownBlock) (hv : ∀ k, (slV v').ownBlock = some k → w.heap.size ≤ k ∨ (slV v).ownBlock = some k) (h1 : t.2.1 = r.length) (h2 : Rd W t.1 r) (h3 : r.length ≤ 140737488355000) : TwAt W w' d mb i m p v' rs (tl ++ [r]) := by
  obtain ⟨n, x, Ls, A, B, tt', k1, k2, k3, k4, k5, k6⟩ := h
  have hk : Kept w w' (fun k => (slV v).ownBlock = some k) := Kept.of hg (fun k hk => hk)
  refine ⟨n, x, Ls, A, B, tt ++ [t], ⟨⟨k1.at_.disk.others hk (fun k hb e => (k5 k e).2 hb), k1.at_.wal.kept hk (fun k ha e => (k5 k e).1 ha), k1.at_.apart, fun k hb => Nat.lt_of_lt_of_le (k1.at_.ltB k hb) hg.size, fun k ha => Nat.lt_of_lt_of_le (k1.at_.ltA k ha) hg.size⟩, k1.log, k1.calm, ?_, k1.low, k1.tab⟩, k2, ht.add t r h1 h2 h3, by simpa using ho, fun k hk => ?_, k6⟩
  · exact gb_trans k1.from_ hg (fun k hk => .inl (k4.block k hk).1)
  · rcases hv k hk with h | h
    · exact ⟨fun ha => by have := k1.at_.ltA k ha; omega, fun hb => by have := k1.at_.ltB k hb; omega⟩
    · exact k5 k h
theorem tw_sync {W w : World} {d mb i p : Nat} {m : Int} {v : Sl} {rs tl : List (List Int)} (h : TwAt W w d mb i m p v rs tl) (hi : i ≤ 1048576) (hm : m ≤ 999999900) :
    Calls Tryz.prog 74 #[.pointer (some ⟨p, 0, none⟩)] w fun e w' => e = .returned (.int .i64 0) ∧ TwAt W w' d mb i (m + 1) p v rs tl := by
  obtain ⟨n, x, Ls, A, B, tt, h1, h2, h3, h4, h5, h6, h7, h8, h9, h10⟩ := h
  refine (s_sync h1 dirX_ok (by omega) (by omega) (by omega)).mono ?_
  rintro e w' ⟨rfl, n', B', k1, k2, k3, k4⟩
  refine ⟨rfl, n', _, _, A, B', tt, k3, h2, h3, sown_keptK h4 k4.kept (fun k hk => by have := h5 k hk; exact fun h => h.elim this.1 this.2), fun k hk => ?_, by omega, by omega, h8, h9, h10⟩
  have hkl := (h4.block k hk).2
  have := h5 k hk
  exact ⟨this.1, fun hb => this.2 (k4.oldB k hkl hb)⟩
theorem hasPrefix_mid (s : List UInt8) (h : Lib.hasPrefix s [120, 47, 115] = true) : Lib.hasPrefix s [120, 47] = true := by
  unfold Lib.hasPrefix at h ⊢
  rw [List.isPrefixOf_iff_prefix] at h ⊢
  exact List.IsPrefix.trans ⟨[115], rfl⟩ h
theorem seg_pre (k : Nat) : Lib.hasPrefix (segN dirX k).data.toList [120, 47, 115] = true := has_app [120, 47, 115] (d8 k)
/-- The segments, counted twice. -/
theorem tw_count {W w : World} {d mb i p : Nat} {m : Int} {v : Sl} {rs tl : List (List Int)} (h : TwAt W w d mb i m p v rs tl) (hi : i ≤ 1048576) : ∃ c : Nat, (Calls Tryz.prog 75 #[.pointer (some ⟨p, 0, none⟩)] w fun e w' => e = .returned (.int .i64 (c : Int)) ∧ w = w') ∧ ∀ w1, w.grownBy w1 none → Calls Tryz.prog 24 #[.pointer (some ⟨d, 0, none⟩), .string ⟨#[120, 47, 115]⟩] w1 fun e w' => ∃ a cap, e = .returned (.slice a c cap) ∧ w1.grownBy w' none := by
  obtain ⟨n, x, Ls, A, B, tt, h1, h2, h3, h4, h5, h6, h7, h8, h9, h10⟩ := h
  have hseg := w_segments w p d dirX _ _ _ A h1.at_.wal
  rw [List.length_map] at hseg
  refine ⟨Ls.length, hseg, fun w1 hg => ?_⟩
  refine (x_list W.heap.size d mb n x B ⟨#[120, 47, 115]⟩ w1 (DV.kept h1.at_.disk hg) h1.calm.on (by omega)).mono ?_
  rintro e w' ⟨a, c, l, rfl, _, hg', hN, _⟩
  have hl : srt l = srt (Ls.map fun q => segN dirX q.1) := by
    have hf := h1.log.folder
    have hnm := hf.names
    have e0 : namesL dirX (cpNums none) false (Ls.map Prod.fst) = Ls.map fun q => segN dirX q.1 := by
      simp [namesL, cpNums, Function.comp_def]
    rw [e0] at hnm
    refine srt_eq hN.1 hnm.1 (fun s => ?_)
    rw [hN.2.2 s]
    constructor
    · rintro ⟨s1, s2⟩
      exact (hnm.2.2 s).2 ⟨s1, hasPrefix_mid _ s2⟩
    · intro hs
      refine ⟨((hnm.2.2 s).1 hs).1, ?_⟩
      obtain ⟨q, _, rfl⟩ := List.mem_map.1 hs
      exact seg_pre q.1
  have hll : l.length = Ls.length := by
    have := congrArg List.length hl
    rw [(srt_perm l).length_eq, (srt_perm _).length_eq, List.length_map] at this
    exact this
  rw [hll]
  exact ⟨a, c, rfl, hg'⟩
end Go.Proofs.YtgpgkpciajajcaaGreatDoor

/- Package kv: keep, shorten. -/
namespace Go.Proofs.YtgpgkpciajajcaaGreatDoor
open Go.RowKit Go.Maps Go.Sort
set_option linter.unusedVariables false
set_option maxRecDepth 20000

/-- keep. -/
theorem k_keep {W w : World} {d mb n : Nat} {x : DSt} {p : Nat} {K : Kp} {Ls : Sg} {A B : Nat → Prop} (h : Se W w d mb n x p dirK K Ls A B) (sb : Nat) (y0 z0 : Value) (hs : TriAt w sb (.pointer (some ⟨p, 0, none⟩)) y0 z0) (hsb : ¬ (A sb ∨ B sb)) (a : Option Addr) (zs : List Int) (L cap : Nat) (hw : x.wn ≤ 999999890) (hop : openN K Ls < 99999997) (hn : n < 1048576) (hsg : Ls.length < 4194304) (hr : Rd w a zs) (hL : zs.length = L) (hnil : a = none → cap = 0) (hz : L ≤ 65536) :
    Calls Tryz.prog 44 #[.pointer (some ⟨sb, 0, none⟩), .slice a L cap] w fun e w' => e = .returned (.int .i64 0) ∧ ∃ n' x' A' B', n' ≤ n + 1 ∧ x'.wn ≤ x.wn + 3 ∧ Se W w' d mb n' x' p dirK K (addL K Ls zs) A' B' ∧ Step2 w w' A B A' B' := by
  have hadd := log_add (rec := zs) h.log h.calm (by omega) (by omega) (by omega)
  have hop2 : openN K (addL K Ls zs) ≤ openN K Ls + 1 := by
    rw [← hadd.op]
    exact rollX_le x dirK (openN K Ls)
  have hln := addL_len K Ls zs
  have HA := s_append h dirK_ok a zs L cap (by omega) (by omega) hn (by omega) hr hL hnil hz
  have HX : Hid (Calls Tryz.prog 73 #[.pointer (some ⟨p, 0, none⟩), .slice a L cap] w fun e w' => e = .returned (.int .i64 0) ∧ TriAt w' sb (.pointer (some ⟨p, 0, none⟩)) y0 z0 ∧ (Calls Tryz.prog 74 #[.pointer (some ⟨p, 0, none⟩)] w' fun e w'' => e = .returned (.int .i64 0) ∧ ∃ n' x' A' B', n' ≤ n + 1 ∧ x'.wn ≤ x.wn + 3 ∧ Se W w'' d mb n' x' p dirK K (addL K Ls zs) A' B' ∧ Step2 w w'' A B A' B')) := by
    refine HA.mono ?_
    rintro e w1 ⟨rfl, n1, A1, B1, k1, k2, k3, k4⟩
    refine ⟨rfl, hs.stay (k4.kept.block sb hs.lt hsb), ?_⟩
    refine (s_sync k3 dirK_ok (by omega) (by omega) (by omega)).mono ?_
    rintro e w2 ⟨rfl, n2, B2, q1, q2, q3, q4⟩
    exact ⟨rfl, n2, _, A1, B2, by omega, by omega, q3, k4.trans q4⟩
  have c0 := hs.c0
  clear h hs hsb hr hadd hop2 hln HA hnil
  go_enter Tryz.func44, Tryz.ntmps44
  go_wp2_with fail
  refine HX.out.mono ?_
  rintro e w1 ⟨rfl, ht, hc⟩
  have c0' := ht.c0
  have HC : Hid (Calls Tryz.prog 74 #[.pointer (some ⟨p, 0, none⟩)] w1 fun e w'' => e = .returned (.int .i64 0) ∧ ∃ n' x' A' B', n' ≤ n + 1 ∧ x'.wn ≤ x.wn + 3 ∧ Se W w'' d mb n' x' p dirK K (addL K Ls zs) A' B' ∧ Step2 w w'' A B A' B') := hc
  clear ht hc HX
  go_wp2_with fail
  refine HC.out.mono ?_
  rintro e w2 ⟨rfl, hx⟩
  have HE : Hid (∃ n' x' A' B', n' ≤ n + 1 ∧ x'.wn ≤ x.wn + 3 ∧ Se W w2 d mb n' x' p dirK K (addL K Ls zs) A' B' ∧ Step2 w w2 A B A' B') := hx
  clear hx HC
  go_wp2
  go_ret
  exact ⟨rfl, HE.out⟩
/-- shorten, of a log that is short enough. -/
theorem k_short {w : World} {p d : Nat} {dir cp : ByteArray} {segs : List Nat} {op : Nat} {A : Nat → Prop} (h : WalA w p d dir cp segs op A) (sb : Nat) (y0 z0 : Value) (hs : TriAt w sb (.pointer (some ⟨p, 0, none⟩)) y0 z0) (hl : segs.length ≤ 64) :
    Calls Tryz.prog 46 #[.pointer (some ⟨sb, 0, none⟩)] w fun e w' => e = .returned (.int .i64 0) ∧ w = w' := by
  have HS := w_segments w p d dir cp segs op A h
  obtain ⟨L, eL⟩ : ∃ L, L = segs.length := ⟨_, rfl⟩
  rw [← eL] at HS hl
  have HS' : Hid (Calls Tryz.prog 75 #[.pointer (some ⟨p, 0, none⟩)] w fun e w' => e = .returned (.int .i64 (L : Int)) ∧ w = w') := HS
  have q1 : decide ((L : Int) ≤ 64) = true := by simp; omega
  have c0 := hs.c0
  clear h hs hl HS eL
  go_enter Tryz.func46, Tryz.ntmps46
  go_wp2_with fail
  refine HS'.out.mono ?_
  rintro e w1 ⟨rfl, rfl⟩
  go_wp2
  go_ret
  exact ⟨rfl, rfl⟩
/-- The records of all registers, by key. -/
def allR (F : ByteArray → Option Reg) (l : List ByteArray) : List (ByteArray × Reg) := l.map fun s => (s, (F s).getD reg0)
theorem allR_get {F : ByteArray → Option Reg} {l : List ByteArray} {i : Nat} {s : ByteArray} (h : l[i]? = some s) : (recsL (allR F l))[i]? = some (recL s ((F s).getD reg0)) := by
  unfold recsL allR
  rw [List.map_map, List.getElem?_map, h]
  rfl
theorem recsAt_keep {w : World} {lo : Nat} {o : Option Nat} {a : Option Addr} {n c : Nat} {ts : List Sl} {recs : List (List Int)} (h1 : SOwn slE 37 w lo (.slice a n c) n ts) (h2 : RecsAt w lo o ts recs) (hr : ∀ r ∈ recs, r.length ≤ 65536) : KeepIs w a ts recs :=
  ⟨SOwn.rd h1, h2.len, fun i t r ht hr' => by
    have := recsAt_get h2 i t r ht hr'
    exact ⟨this.1, this.2.2.2.1, this.2.2.1, hr r (List.mem_of_getElem? hr')⟩⟩
set_option maxHeartbeats 8000000 in
theorem k_shorten {W w : World} {d mb n : Nat} {x : DSt} {p m : Nat} {K : Kp} {Ls : Sg} {A B : Nat → Prop} {F : ByteArray → Option Reg} (h : Se W w d mb n x p dirK K Ls A B) (sb mr : Nat) (y0 : Value) (hs : TriAt w sb (.pointer (some ⟨p, 0, none⟩)) y0 (.map (some mr))) (hm : RegIs w mr m F) (hF : ∀ s r, F s = some r → RegOk s r ∧ (recL s r).length ≤ 65536) (hne : ∃ s, (F s).isSome = true) (hseg : 64 < Ls.length) (hln : Ls.length ≤ 4194304) (hw : x.wn + Ls.length ≤ 999999900) (hop : openN K Ls < 99999998) (hn : n < 1048574) (hm4 : m ≤ 4194304) (hsz : ∀ l, KeysOf F ⟨#[]⟩ l → (logB frameR (recsL (allR F l))).length ≤ 4194304) :
    Calls Tryz.prog 46 #[.pointer (some ⟨sb, 0, none⟩)] w fun e w' => e = .returned (.int .i64 0) ∧ ∃ n' x' B' l, n' ≤ n + 2 ∧ x'.wn ≤ x.wn + 4 + Ls.length ∧ KeysOf F ⟨#[]⟩ l ∧ l.length ≤ m ∧ Se W w' d mb n' x' p dirK (some (openN K Ls, recsL (allR F l))) [] A B' ∧ Step2 w w' A B A B' := by
  have HS := w_segments w p d dirK _ _ _ A h.at_.wal
  rw [List.length_map] at HS
  obtain ⟨L, eL⟩ : ∃ L, L = Ls.length := ⟨_, rfl⟩
  have EL : Hid (L = Ls.length) := eL
  rw [← eL] at HS hseg
  have HS' : Hid (Calls Tryz.prog 75 #[.pointer (some ⟨p, 0, none⟩)] w fun e w' => e = .returned (.int .i64 (L : Int)) ∧ w = w') := HS
  have q1 : decide ((L : Int) ≤ 64) = false := by simp; omega
  have HK : Hid (Calls Tryz.prog 68 #[.pointer (some ⟨sb, 0, none⟩), .string ⟨#[]⟩] w fun e w' => ∃ a c l, e = .returned (.slice a l.length c) ∧ SOwn strE 9 w' w.heap.size (.slice a l.length c) l.length l ∧ w.grownBy w' none ∧ KeysOf F ⟨#[]⟩ l ∧ l.length ≤ m) := k_keys sb mr m _ _ F ⟨#[]⟩ w hs hm hm4
  have c0 := hs.c0
  have HSE : Hid (Se W w d mb n x p dirK K Ls A B) := h
  have HT : Hid (TriAt w sb (.pointer (some ⟨p, 0, none⟩)) y0 (.map (some mr))) := hs
  have HM : Hid (RegIs w mr m F) := hm
  have HF : Hid (∀ s r, F s = some r → RegOk s r ∧ (recL s r).length ≤ 65536) := hF
  have HNE : Hid (∃ s, (F s).isSome = true) := hne
  have HSZ : Hid (∀ l, KeysOf F ⟨#[]⟩ l → (logB frameR (recsL (allR F l))).length ≤ 4194304) := hsz
  have HBD : Hid (Ls.length ≤ 4194304 ∧ x.wn + Ls.length ≤ 999999900 ∧ openN K Ls < 99999998 ∧ n < 1048574) := ⟨hln, hw, hop, hn⟩
  clear h hs hm hF hne hsz hln hw hop hn HS eL
  go_enter Tryz.func46, Tryz.ntmps46
  go_wp2_with fail
  refine HS'.out.mono ?_
  rintro e w1 ⟨rfl, rfl⟩
  go_wp2_with fail
  refine HK.out.mono ?_
  rintro e w1 ⟨ka, kc, l, rfl, hso, hg1, hko, hlm⟩
  obtain ⟨Nk, eN⟩ : ∃ N, N = l.length := ⟨_, rfl⟩
  rw [← eN] at hso hlm ⊢
  have EN : Hid (Nk = l.length) := eN
  have HSO : Hid (SOwn strE 9 w1 w.heap.size (.slice ka Nk kc) Nk l) := hso
  have HG1 : Hid (w.grownBy w1 none) := hg1
  have HKO : Hid (KeysOf F ⟨#[]⟩ l) := hko
  clear hso hg1 hko HK HS' eN
  go_wp2_with fail
  go_loopw [3, 15] (fun t3 t15 wr => ∃ (i : Nat) (ts : List Sl) (va : Option Addr) (vc : Nat), i ≤ Nk ∧ t3 = .slice va i vc ∧ t15 = .int .i64 i ∧ SOwn slE 37 wr w1.heap.size (.slice va i vc) i ts ∧ RecsAt wr w1.heap.size (Value.ownBlock (.slice va i vc)) ts ((recsL (allR F l)).take i) ∧ w1.grownBy wr none) (fun _ t15 _ => Nk - (intOf t15).toNat)
  case atStart => exact ⟨0, [], none, 0, Nat.zero_le _, rfl, rfl, SOwn.nil 37 _ _, trivial, World.grownBy.refl _ _⟩
  case round =>
    obtain ⟨i, ts, va, vc, hi, rfl, rfl, hso, hre, hg⟩ := hrel
    have HSR : Hid (SOwn slE 37 wr w1.heap.size (.slice va i vc) i ts) := hso
    have HRE : Hid (RecsAt wr w1.heap.size (Value.ownBlock (.slice va i vc)) ts ((recsL (allR F l)).take i)) := hre
    have HG : Hid (w1.grownBy wr none) := hg
    have hT := (HT.out.grown HG1.out).grown hg
    have hM := (HM.out.kept HG1.out (by simp)).kept hg (by simp)
    have HLW : Hid (w1.heap.size ≤ wr.heap.size) := hg.size
    by_cases hlt : i < Nk
    · have hii : (i : Int) < (Nk : Int) := by omega
      obtain ⟨s, hs⟩ : ∃ s, l[i]? = some s := ⟨_, List.getElem?_eq_getElem (by rw [← EN.out]; exact hlt)⟩
      obtain ⟨b, off, e1, hc⟩ := (SOwn.rd HSO.out).at (by rw [← EN.out]; omega)
      have hcell : wr.cell? ⟨b, off + i, none⟩ = some (.string s) := by
        have := hc i s 0 _ hs rfl
        exact hg.cell (by simpa [strE] using this) (by simp)
      subst e1
      have hFs : (F s).isSome = true := ((HKO.out.2.2 s).1 (List.mem_of_getElem? hs)).1
      obtain ⟨r, hr⟩ := Option.isSome_iff_exists.1 hFs
      obtain ⟨rv, rd⟩ := r
      obtain ⟨hok, hrl⟩ := HF.out s _ hr
      have hlook : (Instr.lookup 66 (.map (some mr)) (.string s) false).run Tryz.prog wr = .ok (.agg #[.int .u64 (rv : Int), .string rd]) wr := by
        have := hM.look s hok.key.2
        rw [hr] at this
        exact this
      have c2 := hT.c2
      have HLY : Hid (Calls Tryz.prog 43 #[.agg #[.int .u64 (rv : Int), .string rd], .string s] wr fun e w' => ∃ g c N, e = .returned (.slice (some ⟨g, 0, none⟩) N c) ∧ Own w' wr.heap.size g N c (recL s (rv, rd)) ∧ wr.grownBy w' none) := k_lay s rv rd wr hok.key.2 hok.ver.2 (by have := hok.size; dsimp only at this; omega)
      have HTK : Hid ((recsL (allR F l)).take (i + 1) = (recsL (allR F l)).take i ++ [recL s (rv, rd)]) := by
        show _ = _
        rw [List.take_add_one, allR_get hs, hr]
        rfl
      clear hT hM hok hrl hr hFs hc hs hso hre hg
      go_wp2_with fail
      refine HLY.out.mono ?_
      rintro e w2 ⟨g, c, RN, rfl, hown, hg2⟩
      have HOW : Hid (Own w2 wr.heap.size g RN c (recL s (rv, rd))) := hown
      have HG2 : Hid (wr.grownBy w2 none) := hg2
      have hsz : w1.heap.size ≤ w2.heap.size + 1 := by have := hg2.size; have := HLW.out; omega
      have HSO2 : Hid (SOwn slE 37 (w2.alloc (.cells #[.slice (some ⟨g, 0, none⟩) RN c] 37)) w1.heap.size (.slice va i vc) i ts) := SOwn.kept HSR.out (hg2.trans (World.grownBy_alloc w2 _ none)) (by cases va <;> simp [Value.ownBlock])
      clear hown hg2 HLY
      go_wp2_with (at_builtin; refine wpList_append_t slET rfl (.tmp 19) (.tmp 28) rfl w1.heap.size (.slice va i vc) i ts rfl HSO2.out ⟨w2.heap.size, 0, none⟩ [(some ⟨g, 0, none⟩, RN, c)] 1 1 rfl rfl (sllit w2 [(some ⟨g, 0, none⟩, RN, c)]) (by omega) (by omega) (by unfold maxLen; omega) (by rw [show ((w2.alloc (.cells #[.slice (some ⟨g, 0, none⟩) RN c] 37)).heap.size) = w2.heap.size + 1 from Array.size_push _]; exact hsz) ?_; intro g3 k3 w3 ho3 hg3 hgg; have HO3 : Hid (SOwn slE 37 w3 w1.heap.size (.slice (some ⟨g3, 0, none⟩) (i + 1) k3) (i + 1) (ts ++ [(some ⟨g, 0, none⟩, RN, c)])) := ho3; have HG3 : Hid ((w2.alloc (.cells #[.slice (some ⟨g, 0, none⟩) RN c] 37)).grownBy w3 (Value.ownBlock (.slice va i vc))) := hg3; have HGG : Hid (Value.ownBlock (.slice va i vc) = some g3 ∨ g3 = (w2.alloc (.cells #[.slice (some ⟨g, 0, none⟩) RN c] 37)).heap.size) := hgg; clear ho3 hg3 hgg)
      go_roundw
      case rel =>
        refine ⟨i + 1, ts ++ [(some ⟨g, 0, none⟩, RN, c)], some ⟨g3, 0, none⟩, k3, by omega, by go_num, by go_num, HO3.out, ?_, ?_⟩
        · rw [HTK.out]
          have hal := World.grownBy_alloc w2 (.cells #[.slice (some ⟨g, 0, none⟩) RN c] 37) none
          have hbl := HSR.out.block
          have hsa : (w2.alloc (.cells #[.slice (some ⟨g, 0, none⟩) RN c] 37)).heap.size = w2.heap.size + 1 := Array.size_push _
          have ho : ∀ k', Value.ownBlock (.slice (some ⟨g3, 0, none⟩) (i + 1) k3) = some k' → (w2.alloc (.cells #[.slice (some ⟨g, 0, none⟩) RN c] 37)).heap.size ≤ k' ∨ Value.ownBlock (.slice va i vc) = some k' := fun k' hk => by
            have e : g3 = k' := Option.some.inj hk
            subst e
            rcases HGG.out with h | h
            · exact .inr h
            · exact .inl (Nat.le_of_eq h.symm)
          refine RecsAt.app ((HRE.out.kept (HG2.out.trans hal) (fun k hk => by cases hk)).step HG3.out ho) ⟨?_, trivial⟩
          have hge := HOW.out.ge
          refine ⟨HOW.out.len.symm, by rw [HOW.out.len]; exact HOW.out.cap.1, (fun e => by cases e), ?_, ?_⟩
          · refine rd_block HOW.out.rd (fun hr x hx => ?_)
            cases hx
            rw [HG3.out.block g (by omega) (fun e => by have h1 := (hbl _ e.symm).2; omega)]
            exact hal.block g hge.2 (by simp)
          · intro hr x hx
            cases hx
            refine ⟨Nat.le_trans HLW.out hge.1, fun e => ?_⟩
            have e' : g = g3 := Option.some.inj e
            rcases HGG.out with h | h
            · have h1 := (hbl _ h).2
              omega
            · omega
        · exact gb_trans (gb_trans (HG.out.trans HG2.out) (World.grownBy_alloc w2 _ none) (fun k hk => by cases hk)) HG3.out (fun k hk => .inl (HSR.out.block k hk).1)
      case measure => simp [intOf]; omega
    · have hii : ¬ (i : Int) < (Nk : Int) := by omega
      have hiN : i = Nk := by omega
      subst hiN
      have hlen : (recsL (allR F l)).length = i := by rw [recsL_len, EN.out]; unfold allR; simp
      have hall : ∀ r ∈ recsL (allR F l), r.length ≤ 65536 := by
        intro r hr
        unfold recsL allR at hr
        rw [List.map_map, List.mem_map] at hr
        obtain ⟨s, hs, rfl⟩ := hr
        obtain ⟨q, hq⟩ := Option.isSome_iff_exists.1 ((HKO.out.2.2 s).1 hs).1
        show (recL s ((F s).getD reg0)).length ≤ 65536
        rw [hq]
        exact (HF.out s q hq).2
      have hne : recsL (allR F l) ≠ [] := by
        intro e
        obtain ⟨s, hs⟩ := HNE.out
        have hmem := (HKO.out.2.2 s).2 ⟨hs, by simp [Lib.hasPrefix]⟩
        have : l = [] := List.eq_nil_of_length_eq_zero (by rw [← EN.out, ← hlen, e]; rfl)
        rw [this] at hmem
        cases hmem
      have hre2 : RecsAt wr w1.heap.size (Value.ownBlock (.slice va i vc)) ts (recsL (allR F l)) := by
        have h5 := hre
        rw [List.take_of_length_le (by omega)] at h5
        exact h5
      have hgw := HG1.out.trans hg
      obtain ⟨b1, b2, b3, b4⟩ := HBD.out
      have HCUT : Hid (Calls Tryz.prog 76 #[.pointer (some ⟨p, 0, none⟩), .slice va i vc] wr fun e w' => e = .returned (.int .i64 0) ∧ ∃ n' x' B', n' ≤ n + 2 ∧ x'.wn ≤ x.wn + 4 + Ls.length ∧ Se W w' d mb n' x' p dirK (some (openN K Ls, recsL (allR F l))) [] A B' ∧ Step2 wr w' A B A B') :=
        s_cut (HSE.out.grown hgw) dirK_ok va i vc ts (recsL (allR F l)) b2 b3 b4 b1 (recsAt_keep hso hre2 hall) hlen (by omega) hne (HSZ.out l HKO.out) hall
      have HGW : Hid (w.grownBy wr none) := hgw
      have c0' := hT.c0
      clear hso hre hre2 hall hne hlen hgw hT hM hg b1 b2 b3 b4
      go_wp2_with fail
      refine HCUT.out.mono ?_
      rintro e w3 ⟨rfl, n', x', B', k1, k2, k3, k4⟩
      have HE : Hid (∃ n' x' B' l, n' ≤ n + 2 ∧ x'.wn ≤ x.wn + 4 + Ls.length ∧ KeysOf F ⟨#[]⟩ l ∧ l.length ≤ m ∧ Se W w3 d mb n' x' p dirK (some (openN K Ls, recsL (allR F l))) [] A B' ∧ Step2 w w3 A B A B') := ⟨n', x', B', l, k1, k2, HKO.out, by rw [← EN.out]; exact hlm, k3, (Step2.grown A B HGW.out).trans k4⟩
      clear k1 k2 k3 k4 HCUT
      go_wp2
      go_ret
      exact ⟨rfl, HE.out⟩
end Go.Proofs.YtgpgkpciajajcaaGreatDoor

/- Package kv: Get. -/
namespace Go.Proofs.YtgpgkpciajajcaaGreatDoor
open Go.RowKit Go.Maps Go.Sort
set_option linter.unusedVariables false
set_option maxRecDepth 20000

theorem conv_textC (w : World) (s : ByteArray) : ∃ C w2, (convert 9 37 (.string s)).run Tryz.prog w = .ok (.slice (some ⟨w.heap.size, 0, none⟩) s.size C) w2 ∧ Rd w2 (some ⟨w.heap.size, 0, none⟩) (sInts s) ∧ s.size ≤ C ∧ w.grownBy w2 none := by
  refine ⟨_, _, Go.Lib.run_convert_string_bytes w 9 37 5 s Tryz.underlying9 Tryz.underlying37 Tryz.underlying5, ⟨.inr ⟨w.heap.size, 0, rfl, fun i hi => ?_⟩, sInts_byte s⟩, grownCap_ge w s.size 0 5, ?_⟩
  · rw [sInts_len] at hi
    rw [Nat.zero_add, Go.Lib.bytesWorld_cell w 5 s i hi]
    simp [sInts, List.getD_eq_getElem?_getD, hi]
  · exact ⟨rfl, rfl, rfl, by rw [Go.Lib.bytesWorld_size]; omega, fun k hk _ => Go.Lib.bytesWorld_at_old w 5 s k hk⟩
set_option maxHeartbeats 4000000 in
theorem k_get {w : World} {base d mb n m : Nat} {x : DSt} {B : Nat → Prop} {F : ByteArray → Option Reg} (sb mr : Nat) (x0 : Value) (k : ByteArray) (h : DS w base d mb n x B) (hon : x.off = false) (hs : TriAt w sb x0 (.pointer (some ⟨d, 0, none⟩)) (.map (some mr))) (hm : RegIs w mr m F) (hk : kB k = true) :
    Calls Tryz.prog 20 #[.pointer (some ⟨sb, 0, none⟩), .string k] w fun e w' => ∃ a C, e = .returned (.tuple #[.slice (some a) ((F k).getD reg0).2.size C, .int .u64 (((F k).getD reg0).1 : Int), .int .i64 0]) ∧ Rd w' (some a) (sInts ((F k).getD reg0).2) ∧ ((F k).getD reg0).2.size ≤ C ∧ w.heap.size ≤ a.block ∧ w.grownBy w' none := by
  have HF := k_find sb mr x0 k h hon hs hm hk
  unfold regV regV0 at HF
  generalize ((F k).getD reg0).1 = rv at HF ⊢
  generalize ((F k).getD reg0).2 = rd at HF ⊢
  have HF' : Hid (Calls Tryz.prog 41 #[.pointer (some ⟨sb, 0, none⟩), .string k] w fun e w' => e = .returned (.tuple #[.agg #[.int .u64 (rv : Int), .string rd], .int .i64 0]) ∧ w.grownBy w' none) := HF
  clear h hon hs hm hk HF
  go_enter Tryz.func20, Tryz.ntmps20
  go_wp2_with fail
  refine HF'.out.mono ?_
  rintro e w1 ⟨rfl, hg⟩
  obtain ⟨W1, eW1⟩ : ∃ W1, W1 = w1.alloc (.cells #[.int .u64 (rv : Int), .string rd] 90) := ⟨_, rfl⟩
  have HB : RgAt W1 w1.heap.size (.int .u64 (rv : Int)) (.string rd) := by rw [eW1]; exact RgAt.new w1 _ _
  have HG1 : Hid (w.grownBy W1 none) := by show w.grownBy W1 none; rw [eW1]; exact hg.trans (World.grownBy_alloc w1 _ none)
  have HBH : Hid (RgAt W1 w1.heap.size (.int .u64 (rv : Int)) (.string rd)) := HB
  clear hg HF'
  go_upto_region 4 with fail
  rw [← eW1]
  have c0 := HB.c0
  have c1 := HB.c1
  obtain ⟨C, w2, hcv, hrd, hC, hg2⟩ := conv_textC W1.drew rd
  have hgd2 : W1.grownBy w2 none := (gb_drew (World.grownBy.refl W1 none)).trans hg2
  have HR2 : Hid (Rd w2 (some ⟨W1.heap.size, 0, none⟩) (sInts rd) ∧ rd.size ≤ C) := ⟨hrd, hC⟩
  have HG2 : Hid (w.grownBy w2 none) := HG1.out.trans hgd2
  have c0' := (HBH.out.grown hgd2).c0
  have c1' := (HBH.out.grown hgd2).c1
  clear eW1 HB hrd hC hg2 hgd2
  go_region
  all_goals go_wp2
  all_goals go_ret3
  all_goals exact ⟨⟨W1.heap.size, 0, none⟩, C, rfl, HR2.out.1, HR2.out.2, HG1.out.size, HG2.out⟩
end Go.Proofs.YtgpgkpciajajcaaGreatDoor

