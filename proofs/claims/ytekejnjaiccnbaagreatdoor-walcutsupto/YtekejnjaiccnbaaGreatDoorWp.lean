/- Package wal: Open, of a folder that is whole. -/
import Derived.Test.YtekejnjaiccnbaaGreatDoorMt
namespace Go.Proofs.YtekejnjaiccnbaaGreatDoor
open Go.RowKit Go.Maps Go.Sort
set_option linter.unusedVariables false
set_option maxRecDepth 20000

/-- What Open answers: a new log and the records; the log lies below lo, the records from lo on. -/
def OpenOut (w : World) (d : Nat) (dir : ByteArray) (K : Option (Nat × List (List Int))) (Ls : List (Nat × List (List Int))) (e : Ending) (w' : World) : Prop := ∃ (p : Nat) (v : Sl) (m lo : Nat) (a : Option Addr) (c : Nat), e = .returned (.tuple #[.pointer (some ⟨p, 0, none⟩), slV v, .int .i64 0]) ∧ WRow w' p d dir (cpName dir K) (.slice a (Ls.map Prod.fst).length c) (openN K Ls : Int) ∧ SOwn intE 3 w' w.heap.size (.slice a (Ls.map Prod.fst).length c) (Ls.map Prod.fst).length (nI (Ls.map Prod.fst)) ∧ w.heap.size ≤ p ∧ p < lo ∧ (∀ y, a = some y → y.block < lo) ∧ RecsLo lo w' (slV v) m (cpRecs K ++ recsOf Ls) ∧ w.grownBy w' none
theorem w_open1 (q r p : Nat) (v0 : Value) (w : World) (P : Sl → World → Prop) (hq : w.cell? ⟨q, 0, none⟩ = some (.pointer (some ⟨p, 0, none⟩)))
    (hm : Calls Tryz.prog 45 #[.pointer (some ⟨p, 0, none⟩)] w fun e w' => ∃ v : Sl, e = .returned (slV v) ∧ P v w' ∧ w'.cell? ⟨r, 0, none⟩ = some v0 ∧ w'.frozen? ⟨r, 0, none⟩ = false) :
    Calls Tryz.prog 44 #[.pointer (some ⟨q, 0, none⟩), .pointer (some ⟨r, 0, none⟩)] w fun e w' => e = .returned (.tuple #[]) ∧ ∃ v w1, P v w1 ∧ w' = w1.setCell ⟨r, 0, none⟩ (slV v) ∧ w1.cell? ⟨r, 0, none⟩ = some v0 := by
  have HM : Hid (Calls Tryz.prog 45 #[.pointer (some ⟨p, 0, none⟩)] w fun e w' => ∃ v : Sl, e = .returned (slV v) ∧ P v w' ∧ w'.cell? ⟨r, 0, none⟩ = some v0 ∧ w'.frozen? ⟨r, 0, none⟩ = false) := hm
  clear hm
  go_enter Tryz.func44, Tryz.ntmps44
  go_wp2_with fail
  refine HM.out.mono ?_
  rintro e w1 ⟨v, rfl, hp, hc, hz⟩
  have HP : Hid (P v w1) := hp
  have HC : Hid (w1.cell? ⟨r, 0, none⟩ = some v0) := hc
  clear hp HM
  unfold slV
  go_wp2
  go_end0
  exact ⟨rfl, v, w1, HP.out, rfl, HC.out⟩
theorem row1 (w : World) (u : Value) (t : TypeId) : (w.alloc (.cells #[u] t)).rowIs w.heap.size t 1 (fun _ => u) :=
  World.rowIs_alloc w #[u] t (fun _ => u) (fun i hi => by have h0 : i = 0 := by simp at hi; omega
                                                          subst h0; rfl)
/-- Behind the records' and the error's cells. -/
theorem open_pack {w W4 w5 : World} {p d r s m b1 k1 lo : Nat} {dir : ByteArray} {K : Option (Nat × List (List Int))} {Ls : List (Nat × List (List Int))} {v : Sl} {a1 : Option Addr} {u u' : Value} (hg : w.grownBy W4 none) (hp : w.heap.size ≤ p) (hpr : p < r) (hr : r < s) (hs : s < W4.heap.size) (hlo : W4.heap.size ≤ lo) (hpl : p < lo) (hal : ∀ y, a1 = some y → y.block < lo) (hro : RecsLo lo w5 (slV v) m (cpRecs K ++ recsOf Ls)) (hW : WRow w5 p d dir (cpName dir K) (.slice a1 Ls.length k1) (openN K Ls : Int)) (hso : SOwn intE 3 w5 b1 (.slice a1 Ls.length k1) Ls.length (nI (Ls.map Prod.fst))) (hb : W4.heap.size ≤ b1) (hg5 : W4.grownBy w5 (some p)) :
    OpenOut w d dir K Ls (.returned (.tuple #[.pointer (some ⟨p, 0, none⟩), slV v, .int .i64 0])) ((w5.setCell ⟨r, 0, none⟩ u).setCell ⟨s, 0, none⟩ u').drew := by
  have g1 : w5.grownBy (w5.setCell ⟨r, 0, none⟩ u) (some r) := gb_set rfl
  have g2 : (w5.setCell ⟨r, 0, none⟩ u).grownBy ((w5.setCell ⟨r, 0, none⟩ u).setCell ⟨s, 0, none⟩ u').drew (some s) := gb_drew (gb_set rfl)
  have hsz := hg.size
  have e : (Ls.map Prod.fst).length = Ls.length := List.length_map _
  obtain ⟨ts, t1, t2, t3, t4⟩ := hro
  refine ⟨p, v, m, lo, a1, k1, rfl, ?_, ?_, hp, hpl, hal, ⟨ts, ?_, ?_, t3, t4⟩, ?_⟩
  · rw [e]
    exact (hW.kept g1 (fun h => by have := Option.some.inj h; omega)).kept g2 (fun h => by have := Option.some.inj h; omega)
  · rw [e]
    exact (SOwn.kept (SOwn.kept hso g1 (.inr (fun h => by have := (hso.block _ h).1; omega))) g2 (.inr (fun h => by have := (hso.block _ h).1; omega))).base (by omega)
  · exact SOwn.kept (SOwn.kept t1 g1 (.inr (fun h => by have := (t1.block _ h).1; omega))) g2 (.inr (fun h => by have := (t1.block _ h).1; omega))
  · exact (t2.kept g1 (fun k hk => .inl (by cases hk; omega))).kept g2 (fun k hk => .inl (by cases hk; omega))
  · exact gb_trans (gb_trans (gb_trans hg hg5 (fun k hk => .inl (by cases hk; exact hp))) g1 (fun k hk => .inl (by cases hk; omega))) g2 (fun k hk => .inl (by cases hk; omega))
set_option maxHeartbeats 8000000 in
theorem w_open (base d mb n : Nat) (dir : ByteArray) (x : DSt) (B : Nat → Prop) (K : Option (Nat × List (List Int))) (Ls : List (Nat × List (List Int))) (w : World) (hdir : dirB dir = true) (ht : Tab w) (hd : DS w base d mb n x B) (hB : ∀ k, B k → k < w.heap.size) (hon : x.off = false) (hlog : Log x.V dir K Ls) (hn : n ≤ 4194304) (hsz : (cpRecs K ++ recsOf Ls).length ≤ 4194304) (hln : Ls.length ≤ 4194304) :
    Calls Tryz.prog 13 #[.pointer (some ⟨d, 0, none⟩), .string dir] w (OpenOut w d dir K Ls) := by
  have hds : dir.size ≤ 32 := by simp only [dirB, Bool.and_eq_true, decide_eq_true_eq] at hdir; exact hdir.2
  have HIF : Hid (Calls Tryz.prog 42 #[.string dir] w fun e w' => e = .returned (.bool true) ∧ w.grownBy w' none) := by
    have := w_isFolder dir (by omega) w
    rw [hdir] at this
    exact this
  have HD : Hid (DS w base d mb n x B) := hd
  have HT : Hid (Tab w) := ht
  have HB : Hid (∀ k, B k → k < w.heap.size) := hB
  have HDIR : Hid (dirB dir = true) := hdir
  have HLOG : Hid (Log x.V dir K Ls) := hlog
  have hmf : ∀ (fn : Fn) (first cap : Array Value) (w : World), (Instr.makeFunc fn first cap).run Tryz.prog w = .ok (.func fn first cap) w := fun _ _ _ _ => rfl
  clear hd ht hB hdir hlog
  go_enter Tryz.func13, Tryz.ntmps13
  go_wp2_with fail
  refine HIF.out.mono ?_
  rintro e w1 ⟨rfl, hg1⟩
  have HG1 : Hid (w.grownBy w1 none) := hg1
  clear hg1 HIF
  go_wp2_with fail
  obtain ⟨W3, eW3⟩ : ∃ W3, W3 = ((w1.alloc (.cells #[.pointer (some ⟨d, 0, none⟩), .string dir, .string ⟨#[]⟩, .slice none 0 0, .int .i64 0] 77)).alloc (.cells #[.pointer (some ⟨w1.heap.size, 0, none⟩)] 36)).alloc (.cells #[.slice none 0 0] 28) := ⟨_, rfl⟩
  obtain ⟨W4, eW4⟩ : ∃ W4, W4 = W3.alloc (.cells #[.int .i64 0] 37) := ⟨_, rfl⟩
  have hs1 : ∀ (w : World) o, (w.alloc o).heap.size = w.heap.size + 1 := fun w o => Array.size_push _
  have hz3 : W3.heap.size = w1.heap.size + 3 := by rw [eW3, hs1, hs1, hs1]
  have hz4 : W4.heap.size = w1.heap.size + 4 := by rw [eW4, hs1, hz3]
  have hr0 : WRow (w1.alloc (.cells #[.pointer (some ⟨d, 0, none⟩), .string dir, .string ⟨#[]⟩, .slice none 0 0, .int .i64 0] 77)) w1.heap.size d dir ⟨#[]⟩ (.slice none 0 0) 0 := World.rowIs_alloc w1 #[.pointer (some ⟨d, 0, none⟩), .string dir, .string ⟨#[]⟩, .slice none 0 0, .int .i64 0] 77 _ (five rfl rfl rfl rfl rfl)
  have hg14 : w1.grownBy W4 none := by
    rw [eW4, eW3]
    exact (((World.grownBy_alloc w1 _ none).trans (World.grownBy_alloc _ _ none)).trans (World.grownBy_alloc _ _ none)).trans (World.grownBy_alloc _ _ none)
  have hW4 : WRow W4 w1.heap.size d dir ⟨#[]⟩ (.slice none 0 0) 0 := by
    rw [eW4, eW3]
    exact ((hr0.alloc _).alloc _).alloc _
  have hq4 : W4.rowIs (w1.heap.size + 1) 36 1 (fun _ => .pointer (some ⟨w1.heap.size, 0, none⟩)) := by
    have := row1 (w1.alloc (.cells #[.pointer (some ⟨d, 0, none⟩), .string dir, .string ⟨#[]⟩, .slice none 0 0, .int .i64 0] 77)) (.pointer (some ⟨w1.heap.size, 0, none⟩)) 36
    rw [hs1] at this
    rw [eW4, eW3]
    exact (this.alloc _).alloc _
  have hr4 : W4.rowIs (w1.heap.size + 2) 28 1 (fun _ => .slice none 0 0) := by
    have := row1 ((w1.alloc (.cells #[.pointer (some ⟨d, 0, none⟩), .string dir, .string ⟨#[]⟩, .slice none 0 0, .int .i64 0] 77)).alloc (.cells #[.pointer (some ⟨w1.heap.size, 0, none⟩)] 36)) (.slice none 0 0) 28
    rw [hs1, hs1] at this
    rw [eW4, eW3]
    exact this.alloc _
  have hs4 : W4.rowIs (w1.heap.size + 3) 37 1 (fun _ => .int .i64 0) := by
    have := row1 W3 (.int .i64 0) 37
    rw [hz3] at this
    rw [eW4]
    exact this
  have hgw4 : w.grownBy W4 none := HG1.out.trans hg14
  have HM := w_mend base w1.heap.size d mb n dir (.slice none 0 0) 0 x B K Ls W4 HDIR.out (HT.out.grown hgw4) hW4 (DV.kept HD.out hgw4) (fun h => by have := HB.out _ h; have := HG1.out.size; omega) hon HLOG.out hn hsz hln
  have HC := w_caught44 #[.pointer (some ⟨w1.heap.size + 1, 0, none⟩), .pointer (some ⟨w1.heap.size + 2, 0, none⟩)] (fun w2 => ∃ (v : Sl) (w5 : World), MendOut W4 w1.heap.size d dir K Ls (.returned (slV v)) w5 ∧ w2 = w5.setCell ⟨w1.heap.size + 2, 0, none⟩ (slV v)) W3 (by
    rw [← eW4, hz3]
    refine (w_open1 (w1.heap.size + 1) (w1.heap.size + 2) w1.heap.size (.slice none 0 0) W4 (fun v w5 => MendOut W4 w1.heap.size d dir K Ls (.returned (slV v)) w5) (hq4.cell (i := 0) (by omega)) (HM.mono ?_)).mono ?_
    · rintro e w5 hout
      obtain ⟨v, m, a1, k1, b1, rfl, h1, h2, h3, h4, h6⟩ := hout
      have hr5 := hr4.of_block (h6.block _ hr4.lt (fun h => by have := Option.some.inj h; omega))
      exact ⟨v, rfl, ⟨v, m, a1, k1, b1, rfl, h1, h2, h3, h4, h6⟩, hr5.cell (i := 0) (by omega), hr5.frozen 0⟩
    · rintro e w2 ⟨rfl, v, w5, hout, rfl, _⟩
      refine ⟨rfl, ⟨v, w5, hout, rfl⟩, ?_⟩
      obtain ⟨v', m, a1, k1, b1, _, h1, h2, h3, h4, h6⟩ := hout
      have hs5 := (hs4.of_block (h6.block _ hs4.lt (fun h => by have := Option.some.inj h; omega))).setOther (a := ⟨w1.heap.size + 2, 0, none⟩) (by show w1.heap.size + 3 ≠ w1.heap.size + 2; omega) (slV v)
      exact ⟨hs5.cell (i := 0) (by omega), hs5.frozen 0⟩)
  rw [hz3] at HC
  have HC : Hid (Calls Tryz.prog 43 #[.func (.func 44) #[] #[.pointer (some ⟨w1.heap.size + 1, 0, none⟩), .pointer (some ⟨w1.heap.size + 2, 0, none⟩)]] W3 fun e w' => e = .returned (.int .i64 0) ∧ ∃ w2, (∃ (v : Sl) (w5 : World), MendOut W4 w1.heap.size d dir K Ls (.returned (slV v)) w5 ∧ w2 = w5.setCell ⟨w1.heap.size + 2, 0, none⟩ (slV v)) ∧ w' = w2.setCell ⟨w1.heap.size + 3, 0, none⟩ (.int .i64 0)) := HC
  rw [← eW3, show w1.heap.size + 1 + 1 = w1.heap.size + 2 from rfl]
  have HQ4 : Hid (W4.rowIs (w1.heap.size + 1) 36 1 (fun _ => .pointer (some ⟨w1.heap.size, 0, none⟩))) := hq4
  have HR4 : Hid (W4.rowIs (w1.heap.size + 2) 28 1 (fun _ => .slice none 0 0)) := hr4
  have HGW4 : Hid (w.grownBy W4 none) := hgw4
  have HZ4 : Hid (W4.heap.size = w1.heap.size + 4) := hz4
  clear HM hs1 hz3 hz4 hr0 hg14 hW4 hq4 hr4 hs4 hgw4 eW3 eW4
  refine HC.out.mono ?_
  rintro e w3 ⟨rfl, w2, ⟨v, w5, hout, rfl⟩, rfl⟩
  obtain ⟨v', m, a1, k1, b1, ev, ⟨lo, hlo, hpl, hal, h1⟩, h2, h3, h4, h6⟩ := hout
  have ev' : slV v' = slV v := by injection ev with ev; exact ev.symm
  rw [ev'] at h1
  have HPK := open_pack (u := slV v) (u' := .int .i64 0) HGW4.out HG1.out.size (show w1.heap.size < w1.heap.size + 2 by omega) (show w1.heap.size + 2 < w1.heap.size + 3 by omega) (by rw [HZ4.out]; omega) hlo hpl hal h1 h2 h3 h4 h6
  have cq : ((w5.setCell ⟨w1.heap.size + 2, 0, none⟩ (slV v)).setCell ⟨w1.heap.size + 3, 0, none⟩ (.int .i64 0)).cell? ⟨w1.heap.size + 1, 0, none⟩ = some (.pointer (some ⟨w1.heap.size, 0, none⟩)) := by
    have := ((HQ4.out.of_block (h6.block _ HQ4.out.lt (fun h => by have := Option.some.inj h; omega))).setOther (a := ⟨w1.heap.size + 2, 0, none⟩) (by show w1.heap.size + 1 ≠ w1.heap.size + 2; omega) (slV v)).setOther (a := ⟨w1.heap.size + 3, 0, none⟩) (by show w1.heap.size + 1 ≠ w1.heap.size + 3; omega) (.int .i64 0)
    exact this.cell (i := 0) (by omega)
  have cr : ((w5.setCell ⟨w1.heap.size + 2, 0, none⟩ (slV v)).setCell ⟨w1.heap.size + 3, 0, none⟩ (.int .i64 0)).cell? ⟨w1.heap.size + 2, 0, none⟩ = some (slV v) := by
    have := ((HR4.out.of_block (h6.block _ HR4.out.lt (fun h => by have := Option.some.inj h; omega))).set 0 (slV v)).setOther (a := ⟨w1.heap.size + 3, 0, none⟩) (by show w1.heap.size + 2 ≠ w1.heap.size + 3; omega) (.int .i64 0)
    exact this.cell (i := 0) (by omega)
  have HP : Hid (OpenOut w d dir K Ls (.returned (.tuple #[.pointer (some ⟨w1.heap.size, 0, none⟩), slV v, .int .i64 0])) ((w5.setCell ⟨w1.heap.size + 2, 0, none⟩ (slV v)).setCell ⟨w1.heap.size + 3, 0, none⟩ (.int .i64 0)).drew) := HPK
  clear HPK h1 h2 h3 h4 h6 ev ev' HC HQ4 HR4 hlo hpl hal
  unfold slV at cq cr HP ⊢
  go_wp2
  go_region
  all_goals go_wp2
  all_goals go_ret3
  all_goals exact HP.out
end Go.Proofs.YtekejnjaiccnbaaGreatDoor
