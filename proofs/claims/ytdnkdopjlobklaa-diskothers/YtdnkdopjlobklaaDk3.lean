/- Package disk: a file, and what the power's going does to it. -/
import Derived.Test.YtdnkdopjlobklaaDk2
namespace Go.Proofs.Ytdnkdopjlobklaa
open Go.RowKit Go.Maps
set_option linter.unusedVariables false
set_option maxRecDepth 20000

/-- A file in block b. -/
structure FileIs (w : World) (base b : Nat) (a : Option Addr) (c : Nat) (zs : List Int) (syn : Nat) : Prop where
  row : w.rowIs b 72 2 (FileF (.slice a zs.length c) syn)
  own : SOwn byteE 5 w base (.slice a zs.length c) zs.length zs
  byte : ∀ z ∈ zs, 0 ≤ z ∧ z ≤ 255
  syn : syn ≤ zs.length
  len : zs.length ≤ 4194304
theorem FileIs.kept {w w' : World} {row : Option Nat} {base b c : Nat} {a : Option Addr} {zs : List Int} {syn : Nat} (h : FileIs w base b a c zs syn) (hg : w.grownBy w' row) (h1 : some b ≠ row) (h2 : ∀ x, a = some x → some x.block ≠ row) : FileIs w' base b a c zs syn := by
  refine ⟨h.row.of_block (hg.block b h.row.lt h1), SOwn.kept h.own hg ?_, h.byte, h.syn, h.len⟩
  cases a with
  | none => exact .inl rfl
  | some x => exact .inr (h2 x rfl)
theorem FileIs.drew {w : World} {base b c : Nat} {a : Option Addr} {zs : List Int} {syn : Nat} (h : FileIs w base b a c zs syn) : FileIs w.drew base b a c zs syn := ⟨h.row, h.own, h.byte, h.syn, h.len⟩
theorem shrink {w : World} {base k c : Nat} {a : Option Addr} {zs : List Int} (h : SOwn byteE 5 w base (.slice a k c) k zs) (m : Nat) (hm : m ≤ k) : SOwn byteE 5 w base (.slice a m c) m (zs.take m) := by
  have hl : zs.length = k := SOwn.len h
  unfold SOwn at h ⊢
  have e : byteE.flat (zs.take m) = (byteE.flat zs).take m := by rw [byteE_flat, byteE_flat, List.map_take]
  rw [e]
  have hf : (byteE.flat zs).length = k := by rw [byteE_flat, List.length_map, hl]
  refine ⟨by rw [List.length_take, hf]; show min m k = m * 1; omega, ?_⟩
  rcases h.2 with ⟨h', h0⟩ | ⟨g, cap, cur, h', h1, h2, h3, h4, h5, h6⟩
  · simp only [Value.slice.injEq] at h'
    obtain ⟨rfl, rfl, rfl⟩ := h'
    obtain rfl : m = 0 := by omega
    exact .inl ⟨rfl, rfl⟩
  · simp only [Value.slice.injEq] at h'
    obtain ⟨rfl, _, rfl⟩ := h'
    refine .inr ⟨g, c, cur, rfl, h1, h2, by omega, h4, h5, ?_⟩
    rw [← h6, List.take_take]
    congr 1
    show m * 1 = min m (k * 1)
    omega
/-- How many of u bytes that are not synced stay. -/
def keptN (keep : Int) (u : Nat) : Nat := ((if keep < 0 then 0 else keep) % ((u : Int) + 1)).toNat
theorem keptN_le (keep : Int) (u : Nat) : keptN keep u ≤ u := by
  unfold keptN
  have h1 := Int.emod_nonneg (if keep < 0 then 0 else keep) (show (u : Int) + 1 ≠ 0 by omega)
  have h2 := Int.emod_lt_of_pos (if keep < 0 then 0 else keep) (show (0 : Int) < (u : Int) + 1 by omega)
  omega
theorem two {P : Nat → Prop} (h0 : P 0) (h1 : P 1) : ∀ j, j < 2 → P j := by
  intro j hj
  match j, hj with
  | 0, _ => exact h0
  | 1, _ => exact h1
theorem FileIs.cut {w : World} {base b c : Nat} {a : Option Addr} {zs : List Int} {syn : Nat} (h : FileIs w base b a c zs syn) (S : Nat) (hS : S ≤ zs.length) : FileIs ((w.setCell ⟨b, 1, none⟩ (.int .i64 S)).setCell ⟨b, 0, none⟩ (.slice a S c)) base b a c (zs.take S) S := by
  have hl : (zs.take S).length = S := by rw [List.length_take]; omega
  have hg : w.grownBy ((w.setCell ⟨b, 1, none⟩ (.int .i64 S)).setCell ⟨b, 0, none⟩ (.slice a S c)) (some b) := gb_trans (gb_set rfl) (gb_set rfl) (fun k hk => .inr hk)
  refine ⟨?_, ?_, fun z hz => h.byte z (List.mem_of_mem_take hz), by omega, by have := h.len; omega⟩
  · rw [hl]
    exact ((h.row.set 1 (.int .i64 S)).set 0 (.slice a S c)).congr (two rfl rfl)
  · rw [hl]
    refine SOwn.kept (shrink h.own S hS) hg ?_
    cases a with
    | none => exact .inl rfl
    | some x =>
      right
      intro e
      simp only [Value.ownBlock, Option.some.injEq] at e
      obtain ⟨cur, h1, _⟩ := h.row
      rcases h.own.2 with ⟨h', _⟩ | ⟨g, cap, cur', h', _, h2, _⟩
      · simp at h'
      · simp only [Value.slice.injEq, Option.some.injEq] at h'
        obtain ⟨rfl, _⟩ := h'
        simp only at e
        rw [e, h1] at h2
        simp at h2
set_option maxHeartbeats 4000000 in
theorem d_lose (base b : Nat) (a : Option Addr) (c : Nat) (zs : List Int) (syn : Nat) (keep : Int) (w : World) (h : FileIs w base b a c zs syn) (hk : -9223372036854775808 ≤ keep ∧ keep ≤ 9223372036854775807) :
    Calls Try.prog 63 #[.pointer (some ⟨b, 0, none⟩), .int .i64 keep] w fun e w' => e = .returned (.tuple #[]) ∧ FileIs w' base b a c (zs.take (syn + keptN keep (zs.length - syn))) (syn + keptN keep (zs.length - syn)) ∧ w.grownBy w' (some b) := by
  have b0 : w.cell? ⟨b, 0, none⟩ = some (.slice a zs.length c) := h.row.cell (i := 0) (by omega)
  have b1 : w.cell? ⟨b, 1, none⟩ = some (.int .i64 syn) := h.row.cell (i := 1) (by omega)
  have f0 := h.row.frozen 0
  have f1 := h.row.frozen 1
  have hs := h.syn
  have hl := h.len
  obtain ⟨S, eS⟩ : ∃ S, S = syn + keptN keep (zs.length - syn) := ⟨_, rfl⟩
  have hSl : S ≤ zs.length := by have := keptN_le keep (zs.length - syn); omega
  rw [← eS]
  have HF : Hid (FileIs ((w.setCell ⟨b, 1, none⟩ (.int .i64 S)).setCell ⟨b, 0, none⟩ (.slice a S c)) base b a c (zs.take S) S) := h.cut S hSl
  have HG : Hid (w.grownBy ((w.setCell ⟨b, 1, none⟩ (.int .i64 S)).setCell ⟨b, 0, none⟩ (.slice a S c)) (some b)) := gb_trans (gb_set rfl) (gb_set rfl) (fun k hk => .inr hk)
  have hcap : zs.length ≤ c ∧ (c : Int) ≤ 9223372036854775807 ∧ ((∃ g, a = some ⟨g, 0, none⟩) ∨ (a = none ∧ zs.length = 0 ∧ c = 0)) := by
    rcases h.own.2 with ⟨h', h0⟩ | ⟨g, cap, cur', h', _, _, h3, h4, _⟩
    · simp only [Value.slice.injEq] at h'
      obtain ⟨rfl, _, rfl⟩ := h'
      exact ⟨by omega, by omega, .inr ⟨rfl, h0, rfl⟩⟩
    · simp only [Value.slice.injEq] at h'
      obtain ⟨rfl, _, rfl⟩ := h'
      unfold maxLen at h4
      exact ⟨h3, by omega, .inl ⟨g, rfl⟩⟩
  unfold keptN at eS
  obtain ⟨u, eu⟩ : ∃ u, u = zs.length - syn := ⟨_, rfl⟩
  have hu : (zs.length : Int) - (syn : Int) = (u : Int) := by omega
  have hub : u ≤ 4194304 := by omega
  rw [← eu] at eS
  generalize zs.length = L at b0 hs hl hSl hcap hu eu
  obtain ⟨km, hkm, hk0, hk1⟩ : ∃ km, (if keep < 0 then 0 else keep) = km ∧ 0 ≤ km ∧ km ≤ 9223372036854775807 := ⟨_, rfl, by split <;> omega, by split <;> omega⟩
  rw [hkm] at eS
  have hr0 := Int.emod_nonneg km (show (u : Int) + 1 ≠ 0 by omega)
  have hr1 := Int.emod_lt_of_pos km (show (0 : Int) < (u : Int) + 1 by omega)
  have hS : (syn : Int) + km % ((u : Int) + 1) = (S : Int) := by omega
  have hSc : (S : Int) ≤ (c : Int) := by omega
  have hS0 : (0 : Int) ≤ (S : Int) := by omega
  have hSb : (S : Int) ≤ 4194304 := by omega
  obtain ⟨hLc, hc1, hac⟩ := hcap
  clear h eS eu hSl hk
  rcases hac with ⟨g, rfl⟩ | ⟨rfl, rfl, rfl⟩
  · clear hs
    go_enter Try.func63, Try.ntmps63
    go_wp2
    go_region
    go_wp2
    go_region
    go_wp2
    go_region
    all_goals go_wp2
    all_goals go_end0
    all_goals exact ⟨rfl, HF.out.drew.drew.drew, gb_drew (gb_drew (gb_drew HG.out))⟩
  · obtain rfl : S = 0 := by omega
    obtain rfl : syn = 0 := by omega
    obtain rfl : u = 0 := by omega
    clear hs hu hr0 hr1 hS hSc hS0 hSb hLc hl hub hc1
    go_enter Try.func63, Try.ntmps63
    go_wp2
    go_region
    go_wp2
    go_region
    go_wp2
    go_region
    all_goals go_wp2
    all_goals go_end0
    all_goals exact ⟨rfl, HF.out.drew.drew.drew, gb_drew (gb_drew (gb_drew HG.out))⟩
end Go.Proofs.Ytdnkdopjlobklaa
