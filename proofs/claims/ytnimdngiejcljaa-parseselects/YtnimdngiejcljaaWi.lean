/- ParseBins: the walk. -/
import Derived.Test.YtnimdngiejcljaaWha
import Derived.Deep.CutRange
namespace Go.Proofs.Ytnimdngiejcljaa
open Go.RowKit
set_option linter.unusedVariables false
set_option linter.unusedSimpArgs false
set_option maxRecDepth 20000

def cmpS (k : Nat) (on : Bool) : ByteArray := if cmpK k on = true then opI k ++ ⟨#[32, 98, 111, 111, 108]⟩ else opI k
def midS (k : Nat) (on : Bool) : ByteArray := if on = true then cmpS k on ++ ⟨#[32, 111, 110, 40, 97, 44, 111, 114, 41]⟩ else cmpS k on
theorem midS_le {k : Nat} {on : Bool} (hk : k < 13) : (midS k on).size ≤ 40 := by
  have h := opI_le hk
  have h1 : (⟨#[32, 98, 111, 111, 108]⟩ : ByteArray).size = 5 := rfl
  have h2 : (⟨#[32, 111, 110, 40, 97, 44, 111, 114, 41]⟩ : ByteArray).size = 9 := rfl
  unfold midS cmpS
  split <;> split <;> (try simp only [ByteArray.size_append, h1, h2]) <;> omega
theorem cmpS_le {k : Nat} {on : Bool} (hk : k < 13) : (cmpS k on).size ≤ 20 := by
  have h := opI_le hk
  have h1 : (⟨#[32, 98, 111, 111, 108]⟩ : ByteArray).size = 5 := rfl
  unfold cmpS
  split <;> (try simp only [ByteArray.size_append, h1]) <;> omega
/-- What Parse answers, its length a letter. -/
def RdOut2 (ns : List Nd) (n : Nat) (w : World) (e : Ending) (w' : World) : Prop := ∃ a c Q, e = .returned (.tuple #[.slice a n c, .int .i64 0, .int .i64 0]) ∧ NsRd w' a Q ∧ Q.map (·.1) = ns ∧ w.grownBy w' none
theorem parse_rd2 {s : ByteArray} {ns : List Nd} {n : Nat} (h : parseR s = .ok ns) (hn : ns.length = n) (w : World) : Calls Try.prog 8 #[.string s] w fun e w' => RdOut2 ns n w e w' := (parse_rd h w).mono fun e w' h2 => by
  obtain ⟨a, c, Q, he, h3⟩ := h2
  subst hn
  exact ⟨a, c, Q, he, h3⟩
theorem midS_eq (k : Nat) (on : Bool) : 32 :: sInts (midS k on) = midL k on := by
  have h1 : sInts ⟨#[32, 98, 111, 111, 108]⟩ = [32, 98, 111, 111, 108] := rfl
  have h2 : sInts ⟨#[32, 111, 110, 40, 97, 44, 111, 114, 41]⟩ = [32, 111, 110, 40, 97, 44, 111, 114, 41] := rfl
  unfold midS cmpS midL
  split <;> split <;> simp [sInts_cat, h1, h2]
theorem box_set8 {w : World} {g : Nat} {kd op wi ba gr pa : Int} {tx : ByteArray} {ms ns : Value} {bo : Bool} (h : w.heap[g]? = some (.cells #[.int .i64 kd, .int .i64 op, .string tx, ms, .int .i64 wi, .int .i64 ba, .int .i64 gr, ns, .bool bo, .int .i64 pa] 34 (0, 0))) (b : Bool) :
    (w.setCell ⟨g, 8, none⟩ (.bool b)).heap[g]? = some (.cells #[.int .i64 kd, .int .i64 op, .string tx, ms, .int .i64 wi, .int .i64 ba, .int .i64 gr, ns, .bool b, .int .i64 pa] 34 (0, 0)) := by simp [World.setCell, Array.getElem?_modify, h]
theorem box_set6 {w : World} {g : Nat} {kd op wi ba gr pa : Int} {tx : ByteArray} {ms ns : Value} {bo : Bool} (h : w.heap[g]? = some (.cells #[.int .i64 kd, .int .i64 op, .string tx, ms, .int .i64 wi, .int .i64 ba, .int .i64 gr, ns, .bool bo, .int .i64 pa] 34 (0, 0))) (b : Int) :
    (w.setCell ⟨g, 6, none⟩ (.int .i64 b)).heap[g]? = some (.cells #[.int .i64 kd, .int .i64 op, .string tx, ms, .int .i64 wi, .int .i64 ba, .int .i64 b, ns, .bool bo, .int .i64 pa] 34 (0, 0)) := by simp [World.setCell, Array.getElem?_modify, h]
set_option maxHeartbeats 16000000 in
theorem bins_walk (a b : ByteArray) (op : Int) (on : Bool) (w : World) : Calls Try.prog 5 #[.string a, .string b, .int .i64 op, .bool on] w fun e w' => e = .returned (.bool true) ∧ w.grownBy w' none := by
  obtain ⟨k, hk, hkr⟩ : ∃ k : Nat, k < 13 ∧ (bits .and .i64 op 9223372036854775807).tmod 13 = (k : Int) := low_rem op 13 (by decide)
  have HLW := hid (r_low op)
  have HAW := hid f_awake
  generalize bits .and .i64 op 9223372036854775807 = X at HLW hkr
  have hk0 : 0 ≤ (k : Int) := by omega
  have hk13 : (k : Int) < 13 := by omega
  have hwk : IntKind.i64.wrap (k : Int) = (k : Int) := by rw [IntKind.wrap_i64]; omega
  cases ha : parseR a with
  | bad p c =>
    have hc := parse_code ha
    have HPA := hid (parse_bad ha)
    clear ha
    cases hb : parseR b with
    | bad p2 c2 =>
      have HPB := hid (parse_bad hb)
      clear hb
      go_enter Try.func5, Try.ntmps5
      go_wp2_with fail
      refine (HPA.out _).mono ?_
      rintro e w1 ⟨rfl, g1⟩
      have G1 := hid g1
      clear g1
      go_wp2_with fail
      refine (HPB.out _).mono ?_
      rintro e w2 ⟨rfl, g2⟩
      have G2 := hid g2
      clear g2
      go_wp2_with fail
      refine (HAW.out _).mono ?_
      rintro e w3 ⟨rfl, g3⟩
      have G3 := hid (G1.out.trans (G2.out.trans g3))
      clear g3
      go_wp2_with fail
      go_ret
      exact ⟨rfl, G3.out⟩
    | ok ny =>
      have HPB := hid (parse_in hb rfl)
      clear hb
      go_enter Try.func5, Try.ntmps5
      go_wp2_with fail
      refine (HPA.out _).mono ?_
      rintro e w1 ⟨rfl, g1⟩
      have G1 := hid g1
      clear g1
      go_wp2_with fail
      refine (HPB.out _).mono ?_
      rintro e w2 ⟨ya, yc, QY, rfl, HY, EY, g2⟩
      have G2 := hid g2
      clear g2
      go_wp2_with fail
      refine (HAW.out _).mono ?_
      rintro e w3 ⟨rfl, g3⟩
      have G3 := hid (G1.out.trans (G2.out.trans g3))
      clear g3
      go_wp2_with fail
      go_ret
      exact ⟨rfl, G3.out⟩
  | ok nx =>
    cases hb : parseR b with
    | bad p c =>
      have hc := parse_code hb
      have HPA := hid (parse_in ha rfl)
      have HPB := hid (parse_bad hb)
      clear ha hb
      go_enter Try.func5, Try.ntmps5
      go_wp2_with fail
      refine (HPA.out _).mono ?_
      rintro e w1 ⟨xa, xc, QX, rfl, HX, EX, g1⟩
      have G1 := hid g1
      clear g1
      go_wp2_with fail
      refine (HPB.out _).mono ?_
      rintro e w2 ⟨rfl, g2⟩
      have G2 := hid g2
      clear g2
      go_wp2_with fail
      refine (HAW.out _).mono ?_
      rintro e w3 ⟨rfl, g3⟩
      have G3 := hid (G1.out.trans (G2.out.trans g3))
      clear g3
      go_wp2_with fail
      go_ret
      exact ⟨rfl, G3.out⟩
    | ok ny =>
      have HPA := hid (parse_in ha rfl)
      have HPB := hid (parse_in hb rfl)
      have za := (parse_size ha).1
      have zb := (parse_size hb).1
      by_cases hlen : a.size + b.size ≤ 1500
      · have hlen2 : ¬ (1500 : Int) < (a.size : Int) + (b.size : Int) := by omega
        have HNX := hid (parse_size ha).2
        have HNY := hid (parse_size hb).2
        have HPY := hid (parse_some hb)
        have HRA := hid ha
        have HRB := hid hb
        clear ha hb
        go_enter Try.func5, Try.ntmps5
        go_wp2_with fail
        refine (HPA.out _).mono ?_
        rintro e w1 ⟨xa, xc, QX, rfl, HX, EX, g1⟩
        have G1 := hid g1
        clear g1
        go_wp2_with fail
        refine (HPB.out _).mono ?_
        rintro e w2 ⟨ya, yc, QY, rfl, HY, EY, g2⟩
        have G2 := hid g2
        clear g2
        go_wp2_with fail
        refine (HLW.out _).mono ?_
        rintro e w3 ⟨rfl, rfl⟩
        go_upto_region 7 with fail
        have HB0 := hid (heap_alloc_new w2 (.cells #[.int .i64 6, .int .i64 ((k : Int) + 1), .string ⟨#[]⟩, .slice none 0 0, .int .i64 0, .int .i64 0, .int .i64 0, .slice none 0 0, .bool false, .int .i64 2] 34))
        have HG0 := hid (World.grownBy_alloc w2 (.cells #[.int .i64 6, .int .i64 ((k : Int) + 1), .string ⟨#[]⟩, .slice none 0 0, .int .i64 0, .int .i64 0, .int .i64 0, .slice none 0 0, .bool false, .int .i64 2] 34) none)
        have HZ0 : Hid ((w2.alloc (.cells #[.int .i64 6, .int .i64 ((k : Int) + 1), .string ⟨#[]⟩, .slice none 0 0, .int .i64 0, .int .i64 0, .int .i64 0, .slice none 0 0, .bool false, .int .i64 2] 34)).heap.size = w2.heap.size + 1) := size_alloc _ _
        generalize (w2.alloc (.cells #[.int .i64 6, .int .i64 ((k : Int) + 1), .string ⟨#[]⟩, .slice none 0 0, .int .i64 0, .int .i64 0, .int .i64 0, .slice none 0 0, .bool false, .int .i64 2] 34)) = wb at HB0 HG0 HZ0 ⊢
        go_cut [17] from 21 (fun t17 wx => t17 = .string (opI k) ∧ Hid (wb.grownBy wx none))
        case first =>
          go_wp2_with fail
          refine (r_ops _).mono ?_
          rintro e w5 ⟨rfl, hc1, g1⟩
          have c5 : w5.cell? ⟨wb.heap.size, k, none⟩ = some (.string (opI k)) := hc1 k hk
          clear hc1
          have s1 := hid g1
          clear g1
          go_wp2_with fail
          go_meet
          exact ⟨rfl, s1⟩
        case rest =>
          obtain ⟨rfl, HG1⟩ := hcut
          have HB1 := hid ((HG1.out.block w2.heap.size (by rw [HZ0.out]; omega) (by simp)).trans HB0.out)
          have HG1' := hid (HG0.out.trans HG1.out)
          obtain ⟨c0, c1, c2, c3, c4, c5, c6, c7, c8, c9⟩ := nx_cells HB1.out
          have kf : ∀ j, wc.frozen? ⟨w2.heap.size, j, none⟩ = false := free_row HB1.out
          have hok := opI_le hk
          have hgx := HG1'
          clear HG1 HG1' HG0 HB0 HZ0
          go_upto_region 8 with fail
          go_cut [63] from 58 to 63 (fun t63 wx => t63 = .bool (decide (4 ≤ k) && decide (k < 10)) ∧ wc = wx)
          case first =>
            by_cases hge : 4 ≤ (k : Int)
            · by_cases hlt : (k : Int) < 10
              · go_wp2_with fail
                go_meet
                exact ⟨by simp [show 4 ≤ k by omega, show k < 10 by omega], rfl⟩
              · go_wp2_with fail
                go_meet
                exact ⟨by simp [show ¬ k < 10 by omega], rfl⟩
            · go_wp2_with fail
              go_meet
              exact ⟨by simp [show ¬ 4 ≤ k by omega], rfl⟩
          case rest =>
          have hcut0 := hcut
          clear hcut
          obtain ⟨rfl, rfl⟩ := hcut0
          have hx : cmpK k on = (on && (decide (4 ≤ k) && decide (k < 10))) := rfl
          generalize hcm : (decide (4 ≤ k) && decide (k < 10)) = cm at hx ⊢
          go_upto_if 63 with fail
          go_cut [17] from 64 to 68 (fun t17 wx => t17 = .string (cmpS k on) ∧ Hid (w2.grownBy wx none) ∧ Hid (wx.heap[w2.heap.size]? = some (.cells #[.int .i64 6, .int .i64 ((k : Int) + 1), .string ⟨#[]⟩, .slice none 0 0, .int .i64 0, .int .i64 0, .int .i64 0, (.slice none 0 0), .bool (cmpK k on), .int .i64 2] 34 (0, 0))))
          case first =>
            cases cm with
            | true =>
              rw [Bool.and_true] at hx
              have HST : Hid (w2.grownBy (wc.setCell ⟨w2.heap.size, 8, none⟩ (.bool on)) none) := gb_trans hgx.out (gb_set (u := .bool on) rfl) (fun j hj => .inl (by cases hj; exact Nat.le_refl _))
              have HSB := hid (box_set8 HB1.out on)
              cases on with
              | true =>
                go_wp2_with fail
                go_meet
                exact ⟨by unfold cmpS; rw [hx]; rfl, HST, by rw [hx]; exact HSB⟩
              | false =>
                go_wp2_with fail
                go_meet
                exact ⟨by unfold cmpS; rw [hx]; rfl, HST, by rw [hx]; exact HSB⟩
            | false =>
              rw [Bool.and_false] at hx
              go_wp2_with fail
              go_meet
              exact ⟨by unfold cmpS; rw [hx]; rfl, hgx, by rw [hx]; exact HB1⟩
          case rest =>
          have hcut2 := hcut
          clear hcut
          obtain ⟨rfl, HG2, HB2⟩ := hcut2
          clear hgx HB1 c0 c1 c2 c3 c4 c5 c6 c7 c8 c9 kf
          obtain ⟨c0, c1, c2, c3, c4, c5, c6, c7, c8, c9⟩ := nx_cells HB2.out
          have kf : ∀ j, wc.frozen? ⟨w2.heap.size, j, none⟩ = false := free_row HB2.out
          clear hx hcm
          have hcs : (cmpS k on).size ≤ 20 := cmpS_le hk
          go_upto_region 12 with fail
          go_upto_if 69 with fail
          go_cut [17] from 69 to 74 (fun t17 wx => t17 = .string (midS k on) ∧ ∃ na nc, Hid (w2.grownBy wx none) ∧ Hid (wx.heap[w2.heap.size]? = some (.cells #[.int .i64 6, .int .i64 ((k : Int) + 1), .string ⟨#[]⟩, .slice none 0 0, .int .i64 0, .int .i64 0, .int .i64 (grpK on).1, (.slice na (grpK on).2.length nc), .bool (cmpK k on), .int .i64 2] 34 (0, 0))) ∧ Hid (SRd strE wx na (grpK on).2))
          case first =>
            cases on with
            | false =>
              go_wp2_with fail
              go_meet
              exact ⟨rfl, none, 0, HG2, HB2, .inl rfl⟩
            | true =>
              have HSB := hid (box_set6 HB2.out 3)
              have HST : Hid (w2.grownBy (wc.setCell ⟨w2.heap.size, 6, none⟩ (.int .i64 3)) none) := gb_trans HG2.out (gb_set (u := .int .i64 3) rfl) (fun j hj => .inl (by cases hj; exact Nat.le_refl _))
              go_upto_region 14 with fail
              clear HB2 HG2 c0 c1 c2 c3 c4 c5 c6 c7 c8 c9 kf
              generalize (wc.setCell ⟨w2.heap.size, 6, none⟩ (.int .i64 3)) = W0 at HSB HST ⊢
              have hA : w2.heap.size < W0.heap.size := by
                rcases Nat.lt_or_ge w2.heap.size W0.heap.size with h | h
                · exact h
                · have h9 := HSB.out
                  rw [Array.getElem?_eq_none (by exact h)] at h9
                  cases h9
              have HGA := hid (World.grownBy_alloc W0 (.cells #[.string ⟨#[97]⟩, .string ⟨#[111, 114]⟩] 9) none)
              have HAB := hid ((HGA.out.block _ hA (by simp)).trans HSB.out)
              have HRL : Hid (SRd strE (W0.alloc (.cells #[.string ⟨#[97]⟩, .string ⟨#[111, 114]⟩] 9)) (some ⟨W0.heap.size, 0, none⟩) onN) := row_lit W0 onN
              obtain ⟨c0, c1, c2, c3, c4, c5, c6, c7, c8, c9⟩ := nx_cells HAB.out
              have kf := free_row HAB.out
              have HSX := hid ((box_set HAB.out (.slice (some ⟨W0.heap.size, 0, none⟩) 2 2)).2)
              have HGX : Hid (w2.grownBy ((W0.alloc (.cells #[.string ⟨#[97]⟩, .string ⟨#[111, 114]⟩] 9)).setCell ⟨w2.heap.size, 7, none⟩ (.slice (some ⟨W0.heap.size, 0, none⟩) 2 2)) none) := gb_trans (HST.out.trans HGA.out) (gb_set (u := .slice (some ⟨W0.heap.size, 0, none⟩) 2 2) rfl) (fun j hj => .inl (by cases hj; exact Nat.le_refl _))
              have HRX : Hid (SRd strE ((W0.alloc (.cells #[.string ⟨#[97]⟩, .string ⟨#[111, 114]⟩] 9)).setCell ⟨w2.heap.size, 7, none⟩ (.slice (some ⟨W0.heap.size, 0, none⟩) 2 2)) (some ⟨W0.heap.size, 0, none⟩) onN) := HRL.out.grown (gb_set (u := .slice (some ⟨W0.heap.size, 0, none⟩) 2 2) rfl) (fun x hx e => by cases hx; exact absurd (Option.some.inj e : W0.heap.size = w2.heap.size) (by omega))
              have hA2 := hid hA
              clear hA
              go_wp2_with fail
              go_meet
              exact ⟨rfl, some ⟨W0.heap.size, 0, none⟩, 2, HGX, HSX, HRX⟩
          case rest =>
          have hcut3 := hcut
          clear hcut
          obtain ⟨rfl, na, nc, HG3, HB3, HN3⟩ := hcut3
          clear HG2 HB2 c0 c1 c2 c3 c4 c5 c6 c7 c8 c9 kf hcs
          have hSz : (midS k on).size ≤ 40 := midS_le hk
          have HUT : sInts ((((((((⟨#[40]⟩ ++ a) ++ ⟨#[41]⟩) ++ ⟨#[32]⟩) ++ midS k on) ++ ⟨#[32, 40]⟩) ++ b) ++ ⟨#[41]⟩) : ByteArray) = 40 :: (sInts a ++ 41 :: (midL k on ++ 32 :: 40 :: (sInts b ++ [41]))) := by
            rw [← midS_eq k on]
            simp only [sInts_cat, List.append_assoc]
            simp [sInts]
          have hus : ((((((((⟨#[40]⟩ ++ a) ++ ⟨#[41]⟩) ++ ⟨#[32]⟩) ++ midS k on) ++ ⟨#[32, 40]⟩) ++ b) ++ ⟨#[41]⟩) : ByteArray).size ≤ 4096 := by
            simp only [ByteArray.size_append]
            show 1 + a.size + 1 + 1 + _ + 2 + b.size + 1 ≤ 4096
            omega
          have HPU0 : parseR ((((((((⟨#[40]⟩ ++ a) ++ ⟨#[41]⟩) ++ ⟨#[32]⟩) ++ midS k on) ++ ⟨#[32, 40]⟩) ++ b) ++ ⟨#[41]⟩) : ByteArray) = .ok (nx ++ (ny ++ [binN ((k : Int) + 1) (cmpK k on) (grpK on).1 (grpK on).2])) ∨ ∃ p, parseR ((((((((⟨#[40]⟩ ++ a) ++ ⟨#[41]⟩) ++ ⟨#[32]⟩) ++ midS k on) ++ ⟨#[32, 40]⟩) ++ b) ++ ⟨#[41]⟩) : ByteArray) = .bad p 182 := parse_bins hk HRA.out HRB.out HUT hus
          clear HUT hus
          have hNL : (grpK on).2.length ≤ 2 := by cases on <;> decide
          generalize midS k on = S at HPU0 hSz ⊢
          generalize cmpK k on = B at HB3 HPU0
          generalize (grpK on).1 = G at HB3 HPU0
          generalize (grpK on).2 = NL at HB3 HN3 HPU0 hNL
          rcases HPU0 with hpu | ⟨p, hpu⟩
          · obtain ⟨zl, hzl⟩ : ∃ zl, (nx ++ (ny ++ [binN ((k : Int) + 1) B G NL])).length = zl := ⟨_, rfl⟩
            have HPU := hid (parse_rd2 hpu hzl)
            have HZM : Hid (zl ≤ nx.length + ny.length + 1) := by show _ ≤ _; rw [← hzl]; simp; omega
            have HZ0 := hid hzl
            clear hpu hzl
            go_wp2_with fail
            refine (HPU.out _).mono ?_
            rintro e w6 ⟨za, zc, QZ, rfl, HZ, EZ, g6⟩
            have G6 := hid g6
            clear g6
            go_wp2_with fail
            have HBX := hid ((G6.out.block w2.heap.size (by
              rcases Nat.lt_or_ge w2.heap.size wc.heap.size with h | h
              · exact h
              · have h9 := HB3.out
                rw [Array.getElem?_eq_none (by exact h)] at h9
                cases h9) (by simp)).trans HB3.out)
            have HG26 := hid (HG3.out.trans G6.out)
            have HNR : Hid (NdRd w6 (binN ((k : Int) + 1) B G NL, (none, 0, 0), (na, NL.length, nc))) := ⟨.inl rfl, rfl, HN3.out.grown G6.out (by simp), rfl, by show (0 : Nat) ≤ _; omega, by show NL.length ≤ _; omega⟩
            have HXI := hid (HX.out.grown (G2.out.trans HG26.out))
            have LQX : Hid (QX.length = nx.length) := by show _ = _; rw [← EX.out, List.length_map]
            have LQY : Hid (QY.length = ny.length) := by show _ = _; rw [← EY.out, List.length_map]
            have HCP := hid (fun V hV => c_copy2 HXI.out LQX.out V hV)
            have HYI := HY.out.grown HG26.out
            have HZR := hid HZ
            have HZE := hid EZ
            have HZL : Hid (QZ.length = zl) := by show _ = _; rw [← HZ0.out, ← EZ, List.length_map]
            obtain ⟨yb, yo, hya, _⟩ := HYI.rd.at (by rw [LQY.out]; exact HPY.out)
            subst hya
            have HYR : Hid (NsRd w6 (some ⟨yb, yo, none⟩) QY) := ⟨HYI.rd, fun q hq => (HYI.each q hq).rd⟩
            clear HYI HZ EZ
            obtain ⟨e0, e1, e2, e3, e4, e5, e6, e7, e8, e9⟩ := nx_cells HBX.out
            have GD : Hid (w6.grownBy w6.drew none) := gb_drew (World.grownBy.refl w6 none)
            clear hNL hSz
            refine wp_region_held_drew (S := fun V => w6.grownBy V none) (by kernel_rfl) GD.out (fun hHeld => ?_)
            refine wpAnyH_take (i := 0) (v := .int .i64 0) rfl (by kernel_rfl) (by kernel_rfl) (by kernel_rfl) (fun _ _ _ h => h) (Or.inl ⟨by rfl, fun w hSw => ?_⟩) (by assumption) ?_
            · go_simp
            (try simp (maxSteps := 10000000) only [Act.put]); (try simp (maxSteps := 10000000) only [List.setIfInBounds_toArray]); (try simp (maxSteps := 10000000) only [List.set_cons_succ]); (try simp (maxSteps := 10000000) only [List.set_cons_zero])
            refine wpAnyH_take (i := 1) (v := .bool true) rfl (by kernel_rfl) (by kernel_rfl) (by kernel_rfl) (fun _ _ _ h => h) (Or.inl ⟨by rfl, fun w hSw => ?_⟩) (by assumption) ?_
            · go_simp
            (try simp (maxSteps := 10000000) only [Act.put]); (try simp (maxSteps := 10000000) only [List.setIfInBounds_toArray]); (try simp (maxSteps := 10000000) only [List.set_cons_succ]); (try simp (maxSteps := 10000000) only [List.set_cons_zero])
            refine wpAnyH_take (i := 2) (v := .bool true) rfl (by kernel_rfl) (by kernel_rfl) (by kernel_rfl) (fun _ _ _ h => h) (Or.inl ⟨by rfl, fun w hSw => ?_⟩) (by assumption) ?_
            · go_simp
            (try simp (maxSteps := 10000000) only [Act.put]); (try simp (maxSteps := 10000000) only [List.setIfInBounds_toArray]); (try simp (maxSteps := 10000000) only [List.set_cons_succ]); (try simp (maxSteps := 10000000) only [List.set_cons_zero])
            refine wpAnyH_take (i := 3) (v := .slice za zl zc) rfl (by kernel_rfl) (by kernel_rfl) (by kernel_rfl) (fun _ _ _ h => h) (Or.inl ⟨by rfl, fun w hSw => ?_⟩) (by assumption) ?_
            · go_simp
            (try simp (maxSteps := 10000000) only [Act.put]); (try simp (maxSteps := 10000000) only [List.setIfInBounds_toArray]); (try simp (maxSteps := 10000000) only [List.set_cons_succ]); (try simp (maxSteps := 10000000) only [List.set_cons_zero])
            refine wpAnyH_take (i := 4) (v := .slice xa nx.length xc) rfl (by kernel_rfl) (by kernel_rfl) (by kernel_rfl) (fun _ _ _ h => h) (Or.inl ⟨by rfl, fun w hSw => ?_⟩) (by assumption) ?_
            · go_simp
            (try simp (maxSteps := 10000000) only [Act.put]); (try simp (maxSteps := 10000000) only [List.setIfInBounds_toArray]); (try simp (maxSteps := 10000000) only [List.set_cons_succ]); (try simp (maxSteps := 10000000) only [List.set_cons_zero])
            refine wpAnyH_take (i := 6) (v := .slice (some ⟨yb, yo, none⟩) ny.length yc) rfl (by kernel_rfl) (by kernel_rfl) (by kernel_rfl) (fun _ _ _ h => h) (Or.inl ⟨by rfl, fun w hSw => ?_⟩) (by assumption) ?_
            · go_simp
            (try simp (maxSteps := 10000000) only [Act.put]); (try simp (maxSteps := 10000000) only [List.setIfInBounds_toArray]); (try simp (maxSteps := 10000000) only [List.set_cons_succ]); (try simp (maxSteps := 10000000) only [List.set_cons_zero])
            refine wpAnyH_take (i := 8) (v := .agg #[.int .i64 6, .int .i64 ((k : Int) + 1), .string ⟨#[]⟩, .slice none 0 0, .int .i64 0, .int .i64 0, .int .i64 G, .slice na NL.length nc, .bool B, .int .i64 2]) rfl (by kernel_rfl) (by kernel_rfl) (by kernel_rfl) (fun _ _ _ h => h) (Or.inl ⟨by rfl, fun w hSw => ?_⟩) (by assumption) ?_
            · have x0 := hSw.cell e0 (by simp); have x1 := hSw.cell e1 (by simp); have x2 := hSw.cell e2 (by simp); have x3 := hSw.cell e3 (by simp); have x4 := hSw.cell e4 (by simp); have x5 := hSw.cell e5 (by simp); have x6 := hSw.cell e6 (by simp); have x7 := hSw.cell e7 (by simp); have x8 := hSw.cell e8 (by simp); have x9 := hSw.cell e9 (by simp); go_simp
            (try simp (maxSteps := 10000000) only [Act.put]); (try simp (maxSteps := 10000000) only [List.setIfInBounds_toArray]); (try simp (maxSteps := 10000000) only [List.set_cons_succ]); (try simp (maxSteps := 10000000) only [List.set_cons_zero])
            clear e0 e1 e2 e3 e4 e5 e6 e7 e8 e9
            refine wpAnyH_ready (rs := [5, 9]) (by kernel_rfl) (by simp) (AllReadyH.cons (i := 5) rfl (fun K9 hK => ?_) (AllReadyH.cons (i := 9) rfl (fun K9 hK => ?_) AllReadyH.nil))
            · go_simp
              refine (HCP.out _ GD.out).mono ?_
              rintro e wv1 ⟨b1, d1, L1, rfl, M1, E1, U1, B1⟩
              have GA1 := hid (GD.out.trans U1.out)
              refine hK.out _ _ GA1.out (fun hHeld => ?_)
              clear hK K9 hHeld
              (try simp (maxSteps := 10000000) only [Act.put]); (try simp (maxSteps := 10000000) only [List.setIfInBounds_toArray]); (try simp (maxSteps := 10000000) only [List.set_cons_succ]); (try simp (maxSteps := 10000000) only [List.set_cons_zero])
              refine wpAnyH_ready (rs := [7, 9]) (by kernel_rfl) (by simp) (AllReadyH.cons (i := 7) rfl (fun K9 hK => ?_) (AllReadyH.cons (i := 9) rfl (fun K9 hK => ?_) AllReadyH.nil))
              · have LL2 : Hid (L1.length = nx.length) := by have := congrArg List.length E1.out; rw [List.length_map, List.length_map, LQX.out] at this; exact this
                have HO2 := hid M1.out.own
                rw [LL2.out] at HO2
                refine step_append_w ndT (by go_simp) (.tmp 98) (.tmp 99) rfl w6.heap.size (.slice b1 nx.length d1) nx.length L1 (by simp [Act.eval]) HO2.out ⟨yb, yo, none⟩ QY ny.length yc (by simp [Act.eval]) LQY.out (HYR.out.grown GA1.out).rd (by have := HNX.out; have := HNY.out; omega) (by have := HNX.out; have := HNY.out; unfold maxLen; omega) GA1.out.size ?_
                intro v2 wv2 ho2 hg2
                have MB2 := hid (M1.out.app (Z := QY) (fun q hq => .inl (HYR.out.each q hq)) (by rw [LL2.out, LQY.out]; exact ho2) hg2)
                have GA2 := hid MB2.out.up
                have EB2 : Hid (((L1 ++ QY : List Row)).map (·.1) = nx ++ ny) := by show _ = _; rw [List.map_append, E1.out, EX.out, EY.out]
                obtain ⟨b2, d2, hv2⟩ := MB2.out.sl
                rw [show (L1 ++ QY : List Row).length = nx.length + ny.length by rw [List.length_append, LL2.out, LQY.out]] at hv2
                subst hv2
                clear ho2 hg2
                refine hK.out _ _ GA2.out (fun hHeld => ?_)
                clear hK K9 hHeld
                (try simp (maxSteps := 10000000) only [Act.put]); (try simp (maxSteps := 10000000) only [List.setIfInBounds_toArray]); (try simp (maxSteps := 10000000) only [List.set_cons_succ]); (try simp (maxSteps := 10000000) only [List.set_cons_zero])
                refine wpAnyH_ready (rs := [9]) (by kernel_rfl) (by simp) (AllReadyH.cons (i := 9) rfl (fun K9 hK => ?_) AllReadyH.nil)
                go_simp
                have HA3 := hid (World.grownBy_alloc wv2 (.cells #[.int .i64 6, .int .i64 ((k : Int) + 1), .string ⟨#[]⟩, .slice none 0 0, .int .i64 0, .int .i64 0, .int .i64 G, .slice na NL.length nc, .bool B, .int .i64 2] 34) none)
                have HL3 : Hid (SRd ndE (wv2.alloc (.cells #[.int .i64 6, .int .i64 ((k : Int) + 1), .string ⟨#[]⟩, .slice none 0 0, .int .i64 0, .int .i64 0, .int .i64 G, .slice na NL.length nc, .bool B, .int .i64 2] 34)) (some ⟨wv2.heap.size, 0, none⟩) [(binN ((k : Int) + 1) B G NL, (none, 0, 0), (na, NL.length, nc))]) := by
                  have := lit_rd ndE wv2 34 [(binN ((k : Int) + 1) B G NL, (none, 0, 0), (na, NL.length, nc))]
                  exact this
                have GA3 := hid (GA2.out.trans HA3.out)
                have M3 := hid (MB2.out.grown HA3.out)
                have NB3 : Hid (∀ x, (some ⟨wv2.heap.size, 0, none⟩ : Option Addr) = some x → some x.block ≠ Value.ownBlock (.slice b2 (nx.length + ny.length) d2)) := fun x hx e => by
                  cases hx
                  have h9 := (SOwn.block MB2.out.own _ e.symm).2
                  simp at h9
                refine hK.out _ _ GA3.out (fun hHeld => ?_)
                clear hK K9 hHeld
                (try simp (maxSteps := 10000000) only [Act.put]); (try simp (maxSteps := 10000000) only [List.setIfInBounds_toArray]); (try simp (maxSteps := 10000000) only [List.set_cons_succ]); (try simp (maxSteps := 10000000) only [List.set_cons_zero])
                refine wpAnyH_ready (rs := [10]) (by kernel_rfl) (by simp) (AllReadyH.cons (i := 10) rfl (fun K9 hK => ?_) AllReadyH.nil)
                have LL4 : Hid (((L1 ++ QY) : List Row).length = nx.length + ny.length) := by have := congrArg List.length EB2.out; show _ = _; simpa using this
                have HO4 := hid M3.out.own
                rw [LL4.out] at HO4
                refine step_append_w ndT (by go_simp) (.tmp 100) (.tmp 102) rfl w6.heap.size (.slice b2 (nx.length + ny.length) d2) (nx.length + ny.length) (L1 ++ QY) (by simp [Act.eval]) HO4.out ⟨wv2.heap.size, 0, none⟩ [(binN ((k : Int) + 1) B G NL, (none, 0, 0), (na, NL.length, nc))] 1 1 (by simp [Act.eval]) rfl HL3.out (by have := HNX.out; have := HNY.out; omega) (by have := HNX.out; have := HNY.out; unfold maxLen; omega) GA3.out.size ?_
                intro v4 wv4 ho4 hg4
                have MB4 := hid (M3.out.app (Z := [(binN ((k : Int) + 1) B G NL, (none, 0, 0), (na, NL.length, nc))]) (fun q hq => .inl (by rw [List.mem_singleton.1 hq]; exact HNR.out)) (by rw [LL4.out]; exact ho4) hg4)
                have GA4 := hid MB4.out.up
                have EB4 : Hid ((((L1 ++ QY) ++ [(binN ((k : Int) + 1) B G NL, (none, 0, 0), (na, NL.length, nc))] : List Row)).map (·.1) = nx ++ (ny ++ [binN ((k : Int) + 1) B G NL])) := by show _ = _; rw [List.map_append, EB2.out, List.append_assoc]; rfl
                have LB4 : Hid (((L1 ++ QY) ++ [(binN ((k : Int) + 1) B G NL, (none, 0, 0), (na, NL.length, nc))] : List Row).length = nx.length + ny.length + 1) := by show _ = _; rw [List.length_append, LL4.out]; rfl
                obtain ⟨b4, d4, hv4⟩ := MB4.out.sl
                rw [LB4.out] at hv4
                subst hv4
                clear ho4 hg4
                generalize nx.length + ny.length + 1 = m4 at MB4 LB4 HZM ⊢
                have HSN4 : Hid (Calls Try.prog 13 #[.slice za zl zc, .slice b4 m4 d4] wv4 fun e w' => e = .returned (.bool true) ∧ wv4.grownBy w' none) := by
                  have hr2 : NsRd wv4 b4 ((L1 ++ QY) ++ [(binN ((k : Int) + 1) B G NL, (none, 0, 0), (na, NL.length, nc))]) := MB4.out.rds.1
                  have := f_sameN za b4 zc d4 QZ ((L1 ++ QY) ++ [(binN ((k : Int) + 1) B G NL, (none, 0, 0), (na, NL.length, nc))]) wv4 (HZR.out.grown GA4.out) hr2 (by rw [HZE.out, EB4.out]) (by have h5 := HNX.out; have h6 := HNY.out; have h7 := HZM.out; have h8 := LL4.out; have h9 := LB4.out; rw [List.length_append, List.length_singleton] at h9; rw [HZL.out]; omega)
                  rwa [HZL.out, LB4.out] at this
                refine hK.out _ _ GA4.out (fun hHeld => ?_)
                clear hK K9 hHeld
                (try simp (maxSteps := 10000000) only [Act.put]); (try simp (maxSteps := 10000000) only [List.setIfInBounds_toArray]); (try simp (maxSteps := 10000000) only [List.set_cons_succ]); (try simp (maxSteps := 10000000) only [List.set_cons_zero])
                refine wpAnyH_ready (rs := [11]) (by kernel_rfl) (by simp) (AllReadyH.cons (i := 11) rfl (fun K9 hK => ?_) AllReadyH.nil)
                go_simp
                refine HSN4.out.mono ?_
                rintro e ws4 ⟨rfl, gs4⟩
                have GS4 := hid (GA4.out.trans gs4)
                clear gs4
                refine hK.out _ _ GS4.out (fun hHeld => ?_)
                clear hK K9 hHeld
                (try simp (maxSteps := 10000000) only [Act.put]); (try simp (maxSteps := 10000000) only [List.setIfInBounds_toArray]); (try simp (maxSteps := 10000000) only [List.set_cons_succ]); (try simp (maxSteps := 10000000) only [List.set_cons_zero])
                refine wpAnyH_ready (rs := [12]) (by kernel_rfl) (by simp) (AllReadyH.cons (i := 12) rfl (fun K9 hK => ?_) AllReadyH.nil)
                go_simp
                refine hK.out _ _ GS4.out (fun hHeld => ?_)
                clear hK K9 hHeld
                (try simp (maxSteps := 10000000) only [Act.put]); (try simp (maxSteps := 10000000) only [List.setIfInBounds_toArray]); (try simp (maxSteps := 10000000) only [List.set_cons_succ]); (try simp (maxSteps := 10000000) only [List.set_cons_zero])
                refine wpAnyH_ready (rs := [13]) (by kernel_rfl) (by simp) (AllReadyH.cons (i := 13) rfl (fun K9 hK => ?_) AllReadyH.nil)
                go_simp
                refine hK.out _ _ GS4.out (fun hHeld => ?_)
                clear hK K9 hHeld
                (try simp (maxSteps := 10000000) only [Act.put]); (try simp (maxSteps := 10000000) only [List.setIfInBounds_toArray]); (try simp (maxSteps := 10000000) only [List.set_cons_succ]); (try simp (maxSteps := 10000000) only [List.set_cons_zero])
                refine wpAnyH_ready (rs := [14]) (by kernel_rfl) (by simp) (AllReadyH.cons (i := 14) rfl (fun K9 hK => ?_) AllReadyH.nil)
                go_simp
                refine (HAW.out _).mono ?_
                rintro e wt4 ⟨rfl, gt4⟩
                have GT4 := hid (GS4.out.trans gt4)
                clear gt4
                refine hK.out _ _ GT4.out (fun hHeld => ?_)
                clear hK K9 hHeld
                (try simp (maxSteps := 10000000) only [Act.put]); (try simp (maxSteps := 10000000) only [List.setIfInBounds_toArray]); (try simp (maxSteps := 10000000) only [List.set_cons_succ]); (try simp (maxSteps := 10000000) only [List.set_cons_zero])
                refine wpAnyH_ready (rs := [15]) (by kernel_rfl) (by simp) (AllReadyH.cons (i := 15) rfl (fun K9 hK => ?_) AllReadyH.nil)
                go_simp
                refine hK.out _ _ GT4.out (fun hHeld => ?_)
                clear hK K9 hHeld
                (try simp (maxSteps := 10000000) only [Act.put]); (try simp (maxSteps := 10000000) only [List.setIfInBounds_toArray]); (try simp (maxSteps := 10000000) only [List.set_cons_succ]); (try simp (maxSteps := 10000000) only [List.set_cons_zero])
                refine wpAnyH_ready (rs := [16]) (by kernel_rfl) (by simp) (AllReadyH.cons (i := 16) rfl (fun K9 hK => ?_) AllReadyH.nil)
                go_simp
                refine hK.out _ _ GT4.out (fun hHeld => ?_)
                clear hK K9 hHeld
                (try simp (maxSteps := 10000000) only [Act.put]); (try simp (maxSteps := 10000000) only [List.setIfInBounds_toArray]); (try simp (maxSteps := 10000000) only [List.set_cons_succ]); (try simp (maxSteps := 10000000) only [List.set_cons_zero])
                refine wpAnyH_done (by kernel_rfl) ?_ _
                have GF4 := hid (G1.out.trans (G2.out.trans (HG26.out.trans GT4.out)))
                go_wp2
                go_ret
                exact ⟨rfl, GF4.out⟩
              · go_simp
                have HA5 := hid (World.grownBy_alloc wv1 (.cells #[.int .i64 6, .int .i64 ((k : Int) + 1), .string ⟨#[]⟩, .slice none 0 0, .int .i64 0, .int .i64 0, .int .i64 G, .slice na NL.length nc, .bool B, .int .i64 2] 34) none)
                have HL5 : Hid (SRd ndE (wv1.alloc (.cells #[.int .i64 6, .int .i64 ((k : Int) + 1), .string ⟨#[]⟩, .slice none 0 0, .int .i64 0, .int .i64 0, .int .i64 G, .slice na NL.length nc, .bool B, .int .i64 2] 34)) (some ⟨wv1.heap.size, 0, none⟩) [(binN ((k : Int) + 1) B G NL, (none, 0, 0), (na, NL.length, nc))]) := by
                  have := lit_rd ndE wv1 34 [(binN ((k : Int) + 1) B G NL, (none, 0, 0), (na, NL.length, nc))]
                  exact this
                have GA5 := hid (GA1.out.trans HA5.out)
                have M5 := hid (M1.out.grown HA5.out)
                have NB5 : Hid (∀ x, (some ⟨wv1.heap.size, 0, none⟩ : Option Addr) = some x → some x.block ≠ Value.ownBlock (.slice b1 nx.length d1)) := fun x hx e => by
                  cases hx
                  have h9 := (SOwn.block M1.out.own _ e.symm).2
                  simp at h9
                refine hK.out _ _ GA5.out (fun hHeld => ?_)
                clear hK K9 hHeld
                (try simp (maxSteps := 10000000) only [Act.put]); (try simp (maxSteps := 10000000) only [List.setIfInBounds_toArray]); (try simp (maxSteps := 10000000) only [List.set_cons_succ]); (try simp (maxSteps := 10000000) only [List.set_cons_zero])
                refine wpAnyH_ready (rs := [7]) (by kernel_rfl) (by simp) (AllReadyH.cons (i := 7) rfl (fun K9 hK => ?_) AllReadyH.nil)
                have LL6 : Hid (L1.length = nx.length) := by have := congrArg List.length E1.out; rw [List.length_map, List.length_map, LQX.out] at this; exact this
                have HO6 := hid M5.out.own
                rw [LL6.out] at HO6
                refine step_append_w ndT (by go_simp) (.tmp 98) (.tmp 99) rfl w6.heap.size (.slice b1 nx.length d1) nx.length L1 (by simp [Act.eval]) HO6.out ⟨yb, yo, none⟩ QY ny.length yc (by simp [Act.eval]) LQY.out (HYR.out.grown GA5.out).rd (by have := HNX.out; have := HNY.out; omega) (by have := HNX.out; have := HNY.out; unfold maxLen; omega) GA5.out.size ?_
                intro v6 wv6 ho6 hg6
                have MB6 := hid (M5.out.app (Z := QY) (fun q hq => .inl (HYR.out.each q hq)) (by rw [LL6.out, LQY.out]; exact ho6) hg6)
                have GA6 := hid MB6.out.up
                have EB6 : Hid (((L1 ++ QY : List Row)).map (·.1) = nx ++ ny) := by show _ = _; rw [List.map_append, E1.out, EX.out, EY.out]
                have HL6 := hid (HL5.out.grown hg6 NB5.out)
                obtain ⟨b6, d6, hv6⟩ := MB6.out.sl
                rw [show (L1 ++ QY : List Row).length = nx.length + ny.length by rw [List.length_append, LL6.out, LQY.out]] at hv6
                subst hv6
                clear ho6 hg6
                refine hK.out _ _ GA6.out (fun hHeld => ?_)
                clear hK K9 hHeld
                (try simp (maxSteps := 10000000) only [Act.put]); (try simp (maxSteps := 10000000) only [List.setIfInBounds_toArray]); (try simp (maxSteps := 10000000) only [List.set_cons_succ]); (try simp (maxSteps := 10000000) only [List.set_cons_zero])
                refine wpAnyH_ready (rs := [10]) (by kernel_rfl) (by simp) (AllReadyH.cons (i := 10) rfl (fun K9 hK => ?_) AllReadyH.nil)
                have LL7 : Hid (((L1 ++ QY) : List Row).length = nx.length + ny.length) := by have := congrArg List.length EB6.out; show _ = _; simpa using this
                have HO7 := hid MB6.out.own
                rw [LL7.out] at HO7
                refine step_append_w ndT (by go_simp) (.tmp 100) (.tmp 102) rfl w6.heap.size (.slice b6 (nx.length + ny.length) d6) (nx.length + ny.length) (L1 ++ QY) (by simp [Act.eval]) HO7.out ⟨wv1.heap.size, 0, none⟩ [(binN ((k : Int) + 1) B G NL, (none, 0, 0), (na, NL.length, nc))] 1 1 (by simp [Act.eval]) rfl HL6.out (by have := HNX.out; have := HNY.out; omega) (by have := HNX.out; have := HNY.out; unfold maxLen; omega) GA6.out.size ?_
                intro v7 wv7 ho7 hg7
                have MB7 := hid (MB6.out.app (Z := [(binN ((k : Int) + 1) B G NL, (none, 0, 0), (na, NL.length, nc))]) (fun q hq => .inl (by rw [List.mem_singleton.1 hq]; exact HNR.out)) (by rw [LL7.out]; exact ho7) hg7)
                have GA7 := hid MB7.out.up
                have EB7 : Hid ((((L1 ++ QY) ++ [(binN ((k : Int) + 1) B G NL, (none, 0, 0), (na, NL.length, nc))] : List Row)).map (·.1) = nx ++ (ny ++ [binN ((k : Int) + 1) B G NL])) := by show _ = _; rw [List.map_append, EB6.out, List.append_assoc]; rfl
                have LB7 : Hid (((L1 ++ QY) ++ [(binN ((k : Int) + 1) B G NL, (none, 0, 0), (na, NL.length, nc))] : List Row).length = nx.length + ny.length + 1) := by show _ = _; rw [List.length_append, LL7.out]; rfl
                obtain ⟨b7, d7, hv7⟩ := MB7.out.sl
                rw [LB7.out] at hv7
                subst hv7
                clear ho7 hg7
                generalize nx.length + ny.length + 1 = m7 at MB7 LB7 HZM ⊢
                have HSN7 : Hid (Calls Try.prog 13 #[.slice za zl zc, .slice b7 m7 d7] wv7 fun e w' => e = .returned (.bool true) ∧ wv7.grownBy w' none) := by
                  have hr2 : NsRd wv7 b7 ((L1 ++ QY) ++ [(binN ((k : Int) + 1) B G NL, (none, 0, 0), (na, NL.length, nc))]) := MB7.out.rds.1
                  have := f_sameN za b7 zc d7 QZ ((L1 ++ QY) ++ [(binN ((k : Int) + 1) B G NL, (none, 0, 0), (na, NL.length, nc))]) wv7 (HZR.out.grown GA7.out) hr2 (by rw [HZE.out, EB7.out]) (by have h5 := HNX.out; have h6 := HNY.out; have h7 := HZM.out; have h8 := LL7.out; have h9 := LB7.out; rw [List.length_append, List.length_singleton] at h9; rw [HZL.out]; omega)
                  rwa [HZL.out, LB7.out] at this
                refine hK.out _ _ GA7.out (fun hHeld => ?_)
                clear hK K9 hHeld
                (try simp (maxSteps := 10000000) only [Act.put]); (try simp (maxSteps := 10000000) only [List.setIfInBounds_toArray]); (try simp (maxSteps := 10000000) only [List.set_cons_succ]); (try simp (maxSteps := 10000000) only [List.set_cons_zero])
                refine wpAnyH_ready (rs := [11]) (by kernel_rfl) (by simp) (AllReadyH.cons (i := 11) rfl (fun K9 hK => ?_) AllReadyH.nil)
                go_simp
                refine HSN7.out.mono ?_
                rintro e ws7 ⟨rfl, gs7⟩
                have GS7 := hid (GA7.out.trans gs7)
                clear gs7
                refine hK.out _ _ GS7.out (fun hHeld => ?_)
                clear hK K9 hHeld
                (try simp (maxSteps := 10000000) only [Act.put]); (try simp (maxSteps := 10000000) only [List.setIfInBounds_toArray]); (try simp (maxSteps := 10000000) only [List.set_cons_succ]); (try simp (maxSteps := 10000000) only [List.set_cons_zero])
                refine wpAnyH_ready (rs := [12]) (by kernel_rfl) (by simp) (AllReadyH.cons (i := 12) rfl (fun K9 hK => ?_) AllReadyH.nil)
                go_simp
                refine hK.out _ _ GS7.out (fun hHeld => ?_)
                clear hK K9 hHeld
                (try simp (maxSteps := 10000000) only [Act.put]); (try simp (maxSteps := 10000000) only [List.setIfInBounds_toArray]); (try simp (maxSteps := 10000000) only [List.set_cons_succ]); (try simp (maxSteps := 10000000) only [List.set_cons_zero])
                refine wpAnyH_ready (rs := [13]) (by kernel_rfl) (by simp) (AllReadyH.cons (i := 13) rfl (fun K9 hK => ?_) AllReadyH.nil)
                go_simp
                refine hK.out _ _ GS7.out (fun hHeld => ?_)
                clear hK K9 hHeld
                (try simp (maxSteps := 10000000) only [Act.put]); (try simp (maxSteps := 10000000) only [List.setIfInBounds_toArray]); (try simp (maxSteps := 10000000) only [List.set_cons_succ]); (try simp (maxSteps := 10000000) only [List.set_cons_zero])
                refine wpAnyH_ready (rs := [14]) (by kernel_rfl) (by simp) (AllReadyH.cons (i := 14) rfl (fun K9 hK => ?_) AllReadyH.nil)
                go_simp
                refine (HAW.out _).mono ?_
                rintro e wt7 ⟨rfl, gt7⟩
                have GT7 := hid (GS7.out.trans gt7)
                clear gt7
                refine hK.out _ _ GT7.out (fun hHeld => ?_)
                clear hK K9 hHeld
                (try simp (maxSteps := 10000000) only [Act.put]); (try simp (maxSteps := 10000000) only [List.setIfInBounds_toArray]); (try simp (maxSteps := 10000000) only [List.set_cons_succ]); (try simp (maxSteps := 10000000) only [List.set_cons_zero])
                refine wpAnyH_ready (rs := [15]) (by kernel_rfl) (by simp) (AllReadyH.cons (i := 15) rfl (fun K9 hK => ?_) AllReadyH.nil)
                go_simp
                refine hK.out _ _ GT7.out (fun hHeld => ?_)
                clear hK K9 hHeld
                (try simp (maxSteps := 10000000) only [Act.put]); (try simp (maxSteps := 10000000) only [List.setIfInBounds_toArray]); (try simp (maxSteps := 10000000) only [List.set_cons_succ]); (try simp (maxSteps := 10000000) only [List.set_cons_zero])
                refine wpAnyH_ready (rs := [16]) (by kernel_rfl) (by simp) (AllReadyH.cons (i := 16) rfl (fun K9 hK => ?_) AllReadyH.nil)
                go_simp
                refine hK.out _ _ GT7.out (fun hHeld => ?_)
                clear hK K9 hHeld
                (try simp (maxSteps := 10000000) only [Act.put]); (try simp (maxSteps := 10000000) only [List.setIfInBounds_toArray]); (try simp (maxSteps := 10000000) only [List.set_cons_succ]); (try simp (maxSteps := 10000000) only [List.set_cons_zero])
                refine wpAnyH_done (by kernel_rfl) ?_ _
                have GF7 := hid (G1.out.trans (G2.out.trans (HG26.out.trans GT7.out)))
                go_wp2
                go_ret
                exact ⟨rfl, GF7.out⟩
            · go_simp
              have HA8 := hid (World.grownBy_alloc w6.drew (.cells #[.int .i64 6, .int .i64 ((k : Int) + 1), .string ⟨#[]⟩, .slice none 0 0, .int .i64 0, .int .i64 0, .int .i64 G, .slice na NL.length nc, .bool B, .int .i64 2] 34) none)
              have HL8 : Hid (SRd ndE (w6.drew.alloc (.cells #[.int .i64 6, .int .i64 ((k : Int) + 1), .string ⟨#[]⟩, .slice none 0 0, .int .i64 0, .int .i64 0, .int .i64 G, .slice na NL.length nc, .bool B, .int .i64 2] 34)) (some ⟨w6.drew.heap.size, 0, none⟩) [(binN ((k : Int) + 1) B G NL, (none, 0, 0), (na, NL.length, nc))]) := by
                have := lit_rd ndE w6.drew 34 [(binN ((k : Int) + 1) B G NL, (none, 0, 0), (na, NL.length, nc))]
                exact this
              have GA8 := hid (GD.out.trans HA8.out)
              refine hK.out _ _ GA8.out (fun hHeld => ?_)
              clear hK K9 hHeld
              (try simp (maxSteps := 10000000) only [Act.put]); (try simp (maxSteps := 10000000) only [List.setIfInBounds_toArray]); (try simp (maxSteps := 10000000) only [List.set_cons_succ]); (try simp (maxSteps := 10000000) only [List.set_cons_zero])
              refine wpAnyH_ready (rs := [5]) (by kernel_rfl) (by simp) (AllReadyH.cons (i := 5) rfl (fun K9 hK => ?_) AllReadyH.nil)
              go_simp
              refine (HCP.out _ GA8.out).mono ?_
              rintro e wv9 ⟨b9, d9, L9, rfl, M9, E9, U9, B9⟩
              have GA9 := hid (GA8.out.trans U9.out)
              have HL9 := hid (HL8.out.grown U9.out (by simp))
              have NB9 : Hid (∀ x, (some ⟨w6.drew.heap.size, 0, none⟩ : Option Addr) = some x → some x.block ≠ Value.ownBlock (.slice b9 nx.length d9)) := fun x hx e => by
                cases hx
                have h9 := B9.out _ e.symm
                rw [size_alloc] at h9
                simp at h9
                omega
              refine hK.out _ _ GA9.out (fun hHeld => ?_)
              clear hK K9 hHeld
              (try simp (maxSteps := 10000000) only [Act.put]); (try simp (maxSteps := 10000000) only [List.setIfInBounds_toArray]); (try simp (maxSteps := 10000000) only [List.set_cons_succ]); (try simp (maxSteps := 10000000) only [List.set_cons_zero])
              refine wpAnyH_ready (rs := [7]) (by kernel_rfl) (by simp) (AllReadyH.cons (i := 7) rfl (fun K9 hK => ?_) AllReadyH.nil)
              have LL10 : Hid (L9.length = nx.length) := by have := congrArg List.length E9.out; rw [List.length_map, List.length_map, LQX.out] at this; exact this
              have HO10 := hid M9.out.own
              rw [LL10.out] at HO10
              refine step_append_w ndT (by go_simp) (.tmp 98) (.tmp 99) rfl w6.heap.size (.slice b9 nx.length d9) nx.length L9 (by simp [Act.eval]) HO10.out ⟨yb, yo, none⟩ QY ny.length yc (by simp [Act.eval]) LQY.out (HYR.out.grown GA9.out).rd (by have := HNX.out; have := HNY.out; omega) (by have := HNX.out; have := HNY.out; unfold maxLen; omega) GA9.out.size ?_
              intro v10 wv10 ho10 hg10
              have MB10 := hid (M9.out.app (Z := QY) (fun q hq => .inl (HYR.out.each q hq)) (by rw [LL10.out, LQY.out]; exact ho10) hg10)
              have GA10 := hid MB10.out.up
              have EB10 : Hid (((L9 ++ QY : List Row)).map (·.1) = nx ++ ny) := by show _ = _; rw [List.map_append, E9.out, EX.out, EY.out]
              have HL10 := hid (HL9.out.grown hg10 NB9.out)
              obtain ⟨b10, d10, hv10⟩ := MB10.out.sl
              rw [show (L9 ++ QY : List Row).length = nx.length + ny.length by rw [List.length_append, LL10.out, LQY.out]] at hv10
              subst hv10
              clear ho10 hg10
              refine hK.out _ _ GA10.out (fun hHeld => ?_)
              clear hK K9 hHeld
              (try simp (maxSteps := 10000000) only [Act.put]); (try simp (maxSteps := 10000000) only [List.setIfInBounds_toArray]); (try simp (maxSteps := 10000000) only [List.set_cons_succ]); (try simp (maxSteps := 10000000) only [List.set_cons_zero])
              refine wpAnyH_ready (rs := [10]) (by kernel_rfl) (by simp) (AllReadyH.cons (i := 10) rfl (fun K9 hK => ?_) AllReadyH.nil)
              have LL11 : Hid (((L9 ++ QY) : List Row).length = nx.length + ny.length) := by have := congrArg List.length EB10.out; show _ = _; simpa using this
              have HO11 := hid MB10.out.own
              rw [LL11.out] at HO11
              refine step_append_w ndT (by go_simp) (.tmp 100) (.tmp 102) rfl w6.heap.size (.slice b10 (nx.length + ny.length) d10) (nx.length + ny.length) (L9 ++ QY) (by simp [Act.eval]) HO11.out ⟨w6.drew.heap.size, 0, none⟩ [(binN ((k : Int) + 1) B G NL, (none, 0, 0), (na, NL.length, nc))] 1 1 (by simp [Act.eval]) rfl HL10.out (by have := HNX.out; have := HNY.out; omega) (by have := HNX.out; have := HNY.out; unfold maxLen; omega) GA10.out.size ?_
              intro v11 wv11 ho11 hg11
              have MB11 := hid (MB10.out.app (Z := [(binN ((k : Int) + 1) B G NL, (none, 0, 0), (na, NL.length, nc))]) (fun q hq => .inl (by rw [List.mem_singleton.1 hq]; exact HNR.out)) (by rw [LL11.out]; exact ho11) hg11)
              have GA11 := hid MB11.out.up
              have EB11 : Hid ((((L9 ++ QY) ++ [(binN ((k : Int) + 1) B G NL, (none, 0, 0), (na, NL.length, nc))] : List Row)).map (·.1) = nx ++ (ny ++ [binN ((k : Int) + 1) B G NL])) := by show _ = _; rw [List.map_append, EB10.out, List.append_assoc]; rfl
              have LB11 : Hid (((L9 ++ QY) ++ [(binN ((k : Int) + 1) B G NL, (none, 0, 0), (na, NL.length, nc))] : List Row).length = nx.length + ny.length + 1) := by show _ = _; rw [List.length_append, LL11.out]; rfl
              obtain ⟨b11, d11, hv11⟩ := MB11.out.sl
              rw [LB11.out] at hv11
              subst hv11
              clear ho11 hg11
              generalize nx.length + ny.length + 1 = m11 at MB11 LB11 HZM ⊢
              have HSN11 : Hid (Calls Try.prog 13 #[.slice za zl zc, .slice b11 m11 d11] wv11 fun e w' => e = .returned (.bool true) ∧ wv11.grownBy w' none) := by
                have hr2 : NsRd wv11 b11 ((L9 ++ QY) ++ [(binN ((k : Int) + 1) B G NL, (none, 0, 0), (na, NL.length, nc))]) := MB11.out.rds.1
                have := f_sameN za b11 zc d11 QZ ((L9 ++ QY) ++ [(binN ((k : Int) + 1) B G NL, (none, 0, 0), (na, NL.length, nc))]) wv11 (HZR.out.grown GA11.out) hr2 (by rw [HZE.out, EB11.out]) (by have h5 := HNX.out; have h6 := HNY.out; have h7 := HZM.out; have h8 := LL11.out; have h9 := LB11.out; rw [List.length_append, List.length_singleton] at h9; rw [HZL.out]; omega)
                rwa [HZL.out, LB11.out] at this
              refine hK.out _ _ GA11.out (fun hHeld => ?_)
              clear hK K9 hHeld
              (try simp (maxSteps := 10000000) only [Act.put]); (try simp (maxSteps := 10000000) only [List.setIfInBounds_toArray]); (try simp (maxSteps := 10000000) only [List.set_cons_succ]); (try simp (maxSteps := 10000000) only [List.set_cons_zero])
              refine wpAnyH_ready (rs := [11]) (by kernel_rfl) (by simp) (AllReadyH.cons (i := 11) rfl (fun K9 hK => ?_) AllReadyH.nil)
              go_simp
              refine HSN11.out.mono ?_
              rintro e ws11 ⟨rfl, gs11⟩
              have GS11 := hid (GA11.out.trans gs11)
              clear gs11
              refine hK.out _ _ GS11.out (fun hHeld => ?_)
              clear hK K9 hHeld
              (try simp (maxSteps := 10000000) only [Act.put]); (try simp (maxSteps := 10000000) only [List.setIfInBounds_toArray]); (try simp (maxSteps := 10000000) only [List.set_cons_succ]); (try simp (maxSteps := 10000000) only [List.set_cons_zero])
              refine wpAnyH_ready (rs := [12]) (by kernel_rfl) (by simp) (AllReadyH.cons (i := 12) rfl (fun K9 hK => ?_) AllReadyH.nil)
              go_simp
              refine hK.out _ _ GS11.out (fun hHeld => ?_)
              clear hK K9 hHeld
              (try simp (maxSteps := 10000000) only [Act.put]); (try simp (maxSteps := 10000000) only [List.setIfInBounds_toArray]); (try simp (maxSteps := 10000000) only [List.set_cons_succ]); (try simp (maxSteps := 10000000) only [List.set_cons_zero])
              refine wpAnyH_ready (rs := [13]) (by kernel_rfl) (by simp) (AllReadyH.cons (i := 13) rfl (fun K9 hK => ?_) AllReadyH.nil)
              go_simp
              refine hK.out _ _ GS11.out (fun hHeld => ?_)
              clear hK K9 hHeld
              (try simp (maxSteps := 10000000) only [Act.put]); (try simp (maxSteps := 10000000) only [List.setIfInBounds_toArray]); (try simp (maxSteps := 10000000) only [List.set_cons_succ]); (try simp (maxSteps := 10000000) only [List.set_cons_zero])
              refine wpAnyH_ready (rs := [14]) (by kernel_rfl) (by simp) (AllReadyH.cons (i := 14) rfl (fun K9 hK => ?_) AllReadyH.nil)
              go_simp
              refine (HAW.out _).mono ?_
              rintro e wt11 ⟨rfl, gt11⟩
              have GT11 := hid (GS11.out.trans gt11)
              clear gt11
              refine hK.out _ _ GT11.out (fun hHeld => ?_)
              clear hK K9 hHeld
              (try simp (maxSteps := 10000000) only [Act.put]); (try simp (maxSteps := 10000000) only [List.setIfInBounds_toArray]); (try simp (maxSteps := 10000000) only [List.set_cons_succ]); (try simp (maxSteps := 10000000) only [List.set_cons_zero])
              refine wpAnyH_ready (rs := [15]) (by kernel_rfl) (by simp) (AllReadyH.cons (i := 15) rfl (fun K9 hK => ?_) AllReadyH.nil)
              go_simp
              refine hK.out _ _ GT11.out (fun hHeld => ?_)
              clear hK K9 hHeld
              (try simp (maxSteps := 10000000) only [Act.put]); (try simp (maxSteps := 10000000) only [List.setIfInBounds_toArray]); (try simp (maxSteps := 10000000) only [List.set_cons_succ]); (try simp (maxSteps := 10000000) only [List.set_cons_zero])
              refine wpAnyH_ready (rs := [16]) (by kernel_rfl) (by simp) (AllReadyH.cons (i := 16) rfl (fun K9 hK => ?_) AllReadyH.nil)
              go_simp
              refine hK.out _ _ GT11.out (fun hHeld => ?_)
              clear hK K9 hHeld
              (try simp (maxSteps := 10000000) only [Act.put]); (try simp (maxSteps := 10000000) only [List.setIfInBounds_toArray]); (try simp (maxSteps := 10000000) only [List.set_cons_succ]); (try simp (maxSteps := 10000000) only [List.set_cons_zero])
              refine wpAnyH_done (by kernel_rfl) ?_ _
              have GF11 := hid (G1.out.trans (G2.out.trans (HG26.out.trans GT11.out)))
              go_wp2
              go_ret
              exact ⟨rfl, GF11.out⟩
          · have HPU := hid (parse_bad hpu)
            clear hpu
            go_wp2_with fail
            refine (HPU.out _).mono ?_
            rintro e w6 ⟨rfl, g6⟩
            have G6 := hid g6
            clear g6
            go_wp2_with fail
            refine (HAW.out _).mono ?_
            rintro e w9 ⟨rfl, g9⟩
            have G9 := hid (G1.out.trans (G2.out.trans (HG3.out.trans (G6.out.trans g9))))
            clear g9
            go_wp2_with fail
            go_ret
            exact ⟨rfl, G9.out⟩
      · have hlen2 : (1500 : Int) < (a.size : Int) + (b.size : Int) := by omega
        clear ha hb
        go_enter Try.func5, Try.ntmps5
        go_wp2_with fail
        refine (HPA.out _).mono ?_
        rintro e w1 ⟨xa, xc, QX, rfl, HX, EX, g1⟩
        have G1 := hid g1
        clear g1
        go_wp2_with fail
        refine (HPB.out _).mono ?_
        rintro e w2 ⟨ya, yc, QY, rfl, HY, EY, g2⟩
        have G2 := hid g2
        clear g2
        go_wp2_with fail
        refine (HAW.out _).mono ?_
        rintro e w3 ⟨rfl, g3⟩
        have G3 := hid (G1.out.trans (G2.out.trans g3))
        clear g3
        go_wp2_with fail
        go_ret
        exact ⟨rfl, G3.out⟩
end Go.Proofs.Ytnimdngiejcljaa
