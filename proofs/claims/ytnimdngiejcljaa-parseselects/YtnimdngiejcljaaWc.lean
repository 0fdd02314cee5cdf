/- ParseBrackets: the walk. -/
import Derived.Test.YtnimdngiejcljaaVd
import Derived.Test.YtnimdngiejcljaaWb
import Derived.Test.YtnimdngiejcljaaUa
import Derived.Test.YtnimdngiejcljaaRa
namespace Go.Proofs.Ytnimdngiejcljaa
open Go.RowKit
set_option linter.unusedVariables false
set_option linter.unusedSimpArgs false
set_option maxRecDepth 20000

theorem parse_code {s : ByteArray} {p c : Int} (h : parseR s = .bad p c) : c ≠ 0 := by
  cases hl : lexR s with
  | bad q d =>
    unfold parseR at h
    rw [hl] at h
    cases h
    exact (lexR_bad hl).1
  | ok ts =>
    have ht := parse_total hl
    rw [h] at ht
    rcases ht with ⟨rfl, rfl⟩ | ⟨_, hc, _⟩
    · decide
    · exact hc
/-- What Parse answers where it answers nodes: a list that is read. -/
def RdOut (ns : List Nd) (w : World) (e : Ending) (w' : World) : Prop := ∃ a c Q, e = .returned (.tuple #[.slice a ns.length c, .int .i64 0, .int .i64 0]) ∧ NsRd w' a Q ∧ Q.map (·.1) = ns ∧ w.grownBy w' none
theorem parse_rd {s : ByteArray} {ns : List Nd} (h : parseR s = .ok ns) (w : World) : Calls Try.prog 8 #[.string s] w fun e w' => RdOut ns w e w' := (f_parse s w).mono fun e w' h2 => by
  rw [h] at h2
  obtain ⟨v, Q, rfl, hnd, hq, hg⟩ := h2
  obtain ⟨a, n, c, rfl⟩ : ∃ a n c, v = .slice a n c := by
    rcases hnd.own.2 with ⟨h', _⟩ | ⟨g, cap, cur, h', _⟩
    · exact ⟨_, _, _, h'⟩
    · exact ⟨_, _, _, h'⟩
  obtain ⟨h1, rfl⟩ := hnd.rds
  refine ⟨a, c, Q, ?_, h1, hq, hg⟩
  rw [← hq, List.length_map]
theorem parse_bad {s : ByteArray} {p c : Int} (h : parseR s = .bad p c) (w : World) : Calls Try.prog 8 #[.string s] w fun e w' => e = .returned (.tuple #[.slice none 0 0, .int .i64 p, .int .i64 c]) ∧ w.grownBy w' none := (f_parse s w).mono fun e w' h2 => by
  rw [h] at h2
  exact h2
theorem parse_size {s : ByteArray} {ns : List Nd} (h : parseR s = .ok ns) : s.size ≤ 4096 ∧ ns.length ≤ 4097 := by
  obtain ⟨ts, e, _⟩ := parseR_inv h
  have ht := parse_total e
  rw [h] at ht
  exact ⟨(lexR_split e).1, ht.2⟩
theorem brL_zero (s : ByteArray) : sInts ((⟨#[32]⟩ ++ s) ++ ⟨#[32]⟩) = brL 0 (sInts s) := by rw [sInts_cat, sInts_cat]; rfl
theorem brL_succ {s u : ByteArray} {k : Nat} (h : sInts u = brL k (sInts s)) : sInts ((⟨#[40]⟩ ++ u) ++ ⟨#[41]⟩) = brL (k + 1) (sInts s) := by rw [sInts_cat, sInts_cat, h]; rfl
set_option maxHeartbeats 4000000 in
theorem brackets_walk (s : ByteArray) (m : Int) (w : World) : Calls Try.prog 4 #[.string s, .int .i64 m] w fun e w' => e = .returned (.bool true) ∧ w.grownBy w' none := by
  obtain ⟨k, hk, hkr⟩ : ∃ k : Nat, k < 66 ∧ (bits .and .i64 m 9223372036854775807).tmod 66 = (k : Int) := low_rem m 66 (by decide)
  have HLW := hid (r_low m)
  have HAW := hid f_awake
  generalize bits .and .i64 m 9223372036854775807 = X at HLW hkr
  have hk0 : 0 ≤ (k : Int) := by omega
  have hk66 : (k : Int) < 66 := by omega
  have hwk : IntKind.i64.wrap (k : Int) = (k : Int) := by rw [IntKind.wrap_i64]; omega
  cases hp : parseR s with
  | bad p c =>
    have hc := parse_code hp
    have HP := hid (parse_bad hp)
    clear hp
    go_enter Try.func4, Try.ntmps4
    go_wp2_with fail
    refine (HP.out _).mono ?_
    rintro e w1 ⟨rfl, g1⟩
    have G1 := hid g1
    clear g1
    go_wp2_with fail
    refine (HLW.out _).mono ?_
    rintro e w2 ⟨rfl, rfl⟩
    go_wp2_with fail
    refine (HAW.out _).mono ?_
    rintro e w3 ⟨rfl, g3⟩
    have G3 := hid (G1.out.trans g3)
    clear g3
    go_wp2_with fail
    go_ret
    exact ⟨rfl, G3.out⟩
  | ok ns =>
    have HP := hid (parse_rd hp)
    have hsz := (parse_size hp).1
    by_cases hlen : s.size + 2 * k + 2 ≤ 4096
    · have HB : Hid (∀ u, sInts u = brL k (sInts s) → (parseR u = .ok ns ∨ 0 < k ∧ ∃ p, parseR u = .bad p 182) ∧ (64 < k → ∃ p, parseR u = .bad p 182)) := fun u hu => parse_brackets hp hu hlen
      have HNL := hid (parse_size hp).2
      clear hp
      have hlen2 : ¬ (4096 : Int) < (s.size : Int) + 2 * (k : Int) + 2 := by omega
      have HU0 : Hid (sInts ((⟨#[32]⟩ ++ s) ++ ⟨#[32]⟩) = brL 0 (sInts s)) := brL_zero s
      have HSZ : Hid (∀ u j, sInts u = brL j (sInts s) → u.size = s.size + 2 * j + 2) := fun u j hu => by rw [← sInts_len, hu, brL_len, sInts_len]
      go_enter Try.func4, Try.ntmps4
      go_wp2_with fail
      refine (HP.out _).mono ?_
      rintro e w1 ⟨a, c, Q, rfl, h1, hq, g1⟩
      have G1 := hid g1
      have HR := hid h1
      have HQ := hid hq
      clear g1 h1 hq
      go_wp2_with fail
      refine (HLW.out _).mono ?_
      rintro e w2 ⟨rfl, rfl⟩
      go_wp2
      go_loopw [9, 10] (fun t9 t10 wr => ∃ (u : ByteArray) (j : Nat), j ≤ k ∧ t9 = .string u ∧ t10 = .int .i64 (j : Int) ∧ wr = w1 ∧ Hid (sInts u = brL j (sInts s))) (fun _ t10 _ => k - (intOf t10).toNat)
      case atStart => exact ⟨_, 0, Nat.zero_le _, rfl, rfl, rfl, HU0⟩
      case round =>
        obtain ⟨u, j, hj, rfl, rfl, rfl, HU⟩ := hrel
        have hus := HSZ.out u j HU.out
        by_cases hlt : j < k
        · have hji : (j : Int) < (k : Int) := by omega
          have HU1 := hid (brL_succ HU.out)
          have hus0 : u.size ≤ 4096 := by omega
          go_wp2
          go_roundw
          case rel => exact ⟨_, j + 1, by omega, by first | rfl | trivial, by go_num, by first | rfl | trivial, HU1⟩
          case measure => simp [intOf]; omega
        · have hji : ¬ (j : Int) < (k : Int) := by omega
          obtain rfl : j = k := by omega
          obtain ⟨hb, hdeep⟩ := HB.out u HU.out
          rcases hb with hb | ⟨hk1, p, hb⟩
          · have hle : (j : Int) ≤ 64 := by
              by_cases h64 : 64 < j
              · obtain ⟨p, e⟩ := hdeep h64
                rw [hb] at e
                cases e
              · omega
            have HP2 := hid (parse_rd hb)
            clear hb hdeep
            go_wp2_with fail
            refine (HP2.out _).mono ?_
            rintro e w3 ⟨a2, c2, Q2, rfl, h2, hq2, g2⟩
            have G2 := hid (G1.out.trans g2)
            have HSN : Hid (∀ W, w3.grownBy W none → Calls Try.prog 13 #[.slice a2 ns.length c2, .slice a ns.length c] W fun e w' => e = .returned (.bool true) ∧ W.grownBy w' none) := fun W hW => by
              have hl2 : Q2.length = ns.length := by rw [← hq2, List.length_map]
              have hl1 : Q.length = ns.length := by rw [← HQ.out, List.length_map]
              have := f_sameN a2 a c2 c Q2 Q W (h2.grown hW) ((HR.out.grown g2).grown hW) (by rw [hq2, HQ.out]) (by have := HNL.out; omega)
              rwa [hl2, hl1] at this
            clear g2 h2 hq2
            go_wp2_with fail
            refine (HSN.out _ (World.grownBy.refl _ _)).mono ?_
            rintro e w4 ⟨rfl, g4⟩
            have G4 := hid (G2.out.trans g4)
            clear g4
            go_wp2_with fail
            refine (HAW.out _).mono ?_
            rintro e w5 ⟨rfl, g5⟩
            have G5 := hid (G4.out.trans g5)
            clear g5
            go_wp2_with fail
            go_ret
            exact ⟨rfl, G5.out⟩
          · have hk1i : 0 < (j : Int) := by omega
            have HP2 := hid (parse_bad hb)
            clear hb hdeep
            go_wp2_with fail
            refine (HP2.out _).mono ?_
            rintro e w3 ⟨rfl, g2⟩
            have G2 := hid (G1.out.trans g2)
            clear g2
            by_cases h64 : (j : Int) ≤ 64
            · go_wp2_with fail
              refine (HAW.out _).mono ?_
              rintro e w5 ⟨rfl, g5⟩
              have G5 := hid (G2.out.trans g5)
              clear g5
              go_wp2_with fail
              go_ret
              exact ⟨rfl, G5.out⟩
            · go_wp2_with fail
              refine (HAW.out _).mono ?_
              rintro e w5 ⟨rfl, g5⟩
              have G5 := hid (G2.out.trans g5)
              clear g5
              go_wp2_with fail
              go_ret
              exact ⟨rfl, G5.out⟩
    · clear hp
      have hlen2 : (4096 : Int) < (s.size : Int) + 2 * (k : Int) + 2 := by omega
      go_enter Try.func4, Try.ntmps4
      go_wp2_with fail
      refine (HP.out _).mono ?_
      rintro e w1 ⟨a, c, Q, rfl, h1, hq, g1⟩
      have G1 := hid g1
      clear g1 h1 hq
      go_wp2_with fail
      refine (HLW.out _).mono ?_
      rintro e w2 ⟨rfl, rfl⟩
      go_wp2_with fail
      refine (HAW.out _).mono ?_
      rintro e w3 ⟨rfl, g3⟩
      have G3 := hid (G1.out.trans g3)
      clear g3
      go_wp2_with fail
      go_ret
      exact ⟨rfl, G3.out⟩
end Go.Proofs.Ytnimdngiejcljaa
