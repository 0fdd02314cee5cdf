/- Several texts in one: Km, Kn. -/
import Derived.Test.YtgpgkpciajajcaaGreatDoorMw
/- KvTwo: the walk. -/
namespace Go.Proofs.YtgpgkpciajajcaaGreatDoor
open Go.RowKit Go.Maps Go.Sort
set_option linter.unusedVariables false
set_option maxRecDepth 20000

theorem l_key (s : ByteArray) (hs : (s.size : Int) ≤ 9223372036854775807) (w : World) :
    Calls Tryz.prog 22 #[.string s] w fun e w' => e = .returned (.bool (kB s)) ∧ w = w' := by
  obtain ⟨b1, hb1⟩ : ∃ b, b = decide (1 ≤ s.size) := ⟨_, rfl⟩
  obtain ⟨b2, hb2⟩ : ∃ b, b = decide (s.size ≤ 64) := ⟨_, rfl⟩
  have hk : kB s = (b1 && b2) := by rw [hb1, hb2]; rfl
  have q1 : decide ((1 : Int) ≤ (s.size : Int)) = b1 := by rw [hb1]; simp; omega
  have q2 : decide ((s.size : Int) ≤ 64) = b2 := by rw [hb2]; simp; omega
  rw [hk]
  clear hb1 hb2 hk
  cases b1 with
  | false =>
    go_enter Tryz.func22, Tryz.ntmps22
    go_wp2
    go_ret
    exact ⟨rfl, rfl⟩
  | true =>
    go_enter Tryz.func22, Tryz.ntmps22
    go_wp2
    go_ret
    exact ⟨rfl, rfl⟩
theorem ints_back {zs : List Int} (h : ∀ z ∈ zs, 0 ≤ z ∧ z ≤ 255) : sInts (strOfNums zs) = zs := by
  unfold sInts strOfNums
  simp only [List.map_map]
  conv => rhs; rw [← List.map_id zs]
  refine List.map_congr_left (fun z hz => ?_)
  have := h z hz
  simp only [Function.comp, UInt8.toNat_ofNat', id]
  omega
/-- Two writers, i rounds. -/
def TwoAt (W w : World) (d mb sb i : Nat) (k : ByteArray) : Prop := ∃ F, KvS W w d mb sb i F ∧ ((F k).getD reg0).1 = i
theorem two_get {W w : World} {d mb sb i : Nat} {k : ByteArray} (h : TwoAt W w d mb sb i k) (hk : kB k = true) : Calls Tryz.prog 20 #[.pointer (some ⟨sb, 0, none⟩), .string k] w fun e w' => ∃ a L C, e = .returned (.tuple #[.slice (some a) L C, .int .u64 (i : Int), .int .i64 0]) ∧ TwoAt W w' d mb sb i k ∧ w.grownBy w' none := by
  obtain ⟨F, h1, h2⟩ := h
  refine (kv_get h1 k hk).mono ?_
  rintro e w' ⟨a, C, rfl, k1, k2⟩
  exact ⟨a, _, C, by rw [h2], ⟨F, h1.grown k2, h2⟩, k2⟩
/-- .. behind a change. -/
def TwoNow (W w : World) (d mb sb i : Nat) (k : ByteArray) (zs : List Int) : Prop := ∃ F, KvS W w d mb sb i F ∧ F k = some (i, strOfNums zs)
theorem two_set {W w : World} {d mb sb i : Nat} {k : ByteArray} (h : TwoAt W w d mb sb i k) (hk : kB k = true) (hi : i ≤ 10) (a : Option Addr) (zs : List Int) (L c : Nat) (hr : Rd w a zs) (hL : zs.length = L) (hz : L ≤ 60000) : Calls Tryz.prog 19 #[.pointer (some ⟨sb, 0, none⟩), .string k, .slice a L c, .int .u64 (i : Int)] w fun e w' => e = .returned (.tuple #[.int .u64 ((i : Int) + 1), .int .i64 0]) ∧ TwoNow W w' d mb sb (i + 1) k zs := by
  obtain ⟨F, h1, h2⟩ := h
  have := kv_set h1 k a zs L c hk hr hL (by omega) (by omega) (by omega) (.inl (by omega))
  rw [h2] at this
  refine this.mono ?_
  rintro e w' ⟨rfl, k1⟩
  exact ⟨rfl, _, k1, setR_same _ _ _⟩
theorem TwoNow.grown {W w w' : World} {d mb sb i : Nat} {k : ByteArray} {zs : List Int} (h : TwoNow W w d mb sb i k zs) (hg : w.grownBy w' none) : TwoNow W w' d mb sb i k zs := by
  obtain ⟨F, h1, h2⟩ := h
  exact ⟨F, h1.grown hg, h2⟩
theorem TwoNow.at_ {W w : World} {d mb sb i : Nat} {k : ByteArray} {zs : List Int} (h : TwoNow W w d mb sb i k zs) : TwoAt W w d mb sb i k := by
  obtain ⟨F, h1, h2⟩ := h
  exact ⟨F, h1, by rw [h2]; rfl⟩
theorem TwoNow.from_ {W w : World} {d mb sb i : Nat} {k : ByteArray} {zs : List Int} (h : TwoNow W w d mb sb i k zs) : W.grownBy w none := by
  obtain ⟨F, h1, h2⟩ := h
  exact h1.from_
theorem TwoAt.from_ {W w : World} {d mb sb i : Nat} {k : ByteArray} (h : TwoAt W w d mb sb i k) : W.grownBy w none := by
  obtain ⟨F, h1, h2⟩ := h
  exact h1.from_
theorem TwoAt.grown {W w w' : World} {d mb sb i : Nat} {k : ByteArray} (h : TwoAt W w d mb sb i k) (hg : w.grownBy w' none) : TwoAt W w' d mb sb i k := by
  obtain ⟨F, h1, h2⟩ := h
  exact ⟨F, h1.grown hg, h2⟩
theorem two_not {W w : World} {d mb sb i : Nat} {k : ByteArray} {zs : List Int} (h : TwoNow W w d mb sb (i + 1) k zs) (hk : kB k = true) (a : Option Addr) (L c : Nat) : Calls Tryz.prog 19 #[.pointer (some ⟨sb, 0, none⟩), .string k, .slice a L c, .int .u64 (i : Int)] w fun e w' => e = .returned (.tuple #[.int .u64 ((i : Int) + 1), .int .i64 121]) ∧ TwoNow W w' d mb sb (i + 1) k zs := by
  obtain ⟨F, h1, h2⟩ := h
  have := kv_setVer h1 k a L c i hk (by rw [h2]; show i + 1 ≠ i; omega)
  rw [h2] at this
  refine this.mono ?_
  rintro e w' ⟨rfl, k1⟩
  exact ⟨by simp, F, h1.grown k1, h2⟩
theorem two_read {W w : World} {d mb sb i : Nat} {k : ByteArray} {zs : List Int} (h : TwoNow W w d mb sb (i + 1) k zs) (hk : kB k = true) (hz : ∀ z ∈ zs, 0 ≤ z ∧ z ≤ 255) (L : Nat) (hL : zs.length = L) : Calls Tryz.prog 20 #[.pointer (some ⟨sb, 0, none⟩), .string k] w fun e w' => ∃ a C, e = .returned (.tuple #[.slice (some a) L C, .int .u64 ((i : Int) + 1), .int .i64 0]) ∧ Rd w' (some a) zs ∧ TwoNow W w' d mb sb (i + 1) k zs := by
  obtain ⟨F, h1, h2⟩ := h
  have := kv_get h1 k hk
  rw [h2] at this
  refine this.mono ?_
  rintro e w' ⟨a, C, rfl, k1, k2⟩
  refine ⟨a, C, ?_, ?_, F, h1.grown k2, h2⟩
  · show Ending.returned (.tuple #[.slice (some a) (strOfNums zs).size C, .int .u64 ((i + 1 : Nat) : Int), .int .i64 0]) = _
    rw [str_size, hL]
    simp
  · have k1' : Rd w' (some a) (sInts (strOfNums zs)) := k1
    rw [ints_back hz] at k1'
    exact k1'
set_option maxHeartbeats 16000000 in
theorem kv_two (k : ByteArray) (aa : Option Addr) (za : List Int) (La ca : Nat) (ab : Option Addr) (zb : List Int) (Lb cb : Nat) (t : Int) (w : World) (ht : Tab w) (hks : (k.size : Int) ≤ 140737488355328) (hra : Rd w aa za) (hLa : za.length = La) (hna : aa = none → ca = 0) (hza : La ≤ 140737488351232) (hrb : Rd w ab zb) (hLb : zb.length = Lb) (hnb : ab = none → cb = 0) (hzb : Lb ≤ 140737488351232) :
    Calls Tryz.prog 5 #[.string k, .slice aa La ca, .slice ab Lb cb, .int .i64 t] w fun e w' => e = .returned (.bool true) ∧ w.grownBy w' none := by
  have HD : Hid (Calls Tryz.prog 7 #[] w fun e w' => ∃ d mb B, e = .returned (.pointer (some ⟨d, 0, none⟩)) ∧ De w w' d mb 0 x0 dirK none [] B ∧ w.grownBy w' none) := kv_disk w ht
  have HAW : Hid (∀ w1, w.grownBy w1 none → Calls Tryz.prog 16 #[] w1 fun e w' => e = .returned (.bool true) ∧ w.grownBy w' none) := fun w1 hg => by
    refine (kv_awake w1 (ht.grown hg)).mono ?_
    rintro e w' ⟨rfl, h⟩
    exact ⟨rfl, hg.trans h⟩
  have HLK : Hid (∀ w1, Calls Tryz.prog 22 #[.string k] w1 fun e w' => e = .returned (.bool (kB k)) ∧ w1 = w') := fun w1 => l_key k (by omega) w1
  have HRA : Hid (Rd w aa za ∧ za.length = La ∧ (aa = none → ca = 0)) := ⟨hra, hLa, hna⟩
  have HRB : Hid (Rd w ab zb ∧ zb.length = Lb ∧ (ab = none → cb = 0)) := ⟨hrb, hLb, hnb⟩
  have HCA : Hid (∀ w1, w.grownBy w1 none → Calls Tryz.prog 23 #[.slice aa La ca] w1 fun e w' => ∃ g c, e = .returned (.slice (some ⟨g, 0, none⟩) La c) ∧ Rd w' (some ⟨g, 0, none⟩) za ∧ w1.grownBy w' none) := fun w1 hg => by
    have := copy_any aa za ca w1 (hra.grown hg (by simp)) hna (by omega)
    rw [hLa] at this
    refine this.mono ?_
    rintro e w' ⟨g, c, rfl, ho, hg'⟩
    exact ⟨g, c, rfl, ho.rd, hg'⟩
  have HCB : Hid (∀ w1, w.grownBy w1 none → Calls Tryz.prog 23 #[.slice ab Lb cb] w1 fun e w' => ∃ g c, e = .returned (.slice (some ⟨g, 0, none⟩) Lb c) ∧ Rd w' (some ⟨g, 0, none⟩) zb ∧ w1.grownBy w' none) := fun w1 hg => by
    have := copy_any ab zb cb w1 (hrb.grown hg (by simp)) hnb (by omega)
    rw [hLb] at this
    refine this.mono ?_
    rintro e w' ⟨g, c, rfl, ho, hg'⟩
    exact ⟨g, c, rfl, ho.rd, hg'⟩
  clear ht hra hLa hna hrb hLb hnb
  by_cases hk : kB k = true
  · rw [hk] at HLK
    have HK : Hid (kB k = true) := hk
    clear hk
    by_cases hlong : La ≤ 60000 ∧ Lb ≤ 60000
    · obtain ⟨ha6, hb6⟩ := hlong
      have q1 : decide ((60000 : Int) < (La : Int)) = false := by simp; omega
      have q2 : decide ((60000 : Int) < (Lb : Int)) = false := by simp; omega
      have HA6 : Hid (La ≤ 60000 ∧ Lb ≤ 60000) := ⟨ha6, hb6⟩
      clear hza hzb
      go_enter Tryz.func5, Tryz.ntmps5
      go_wp2_with fail
      refine HD.out.mono ?_
      rintro e w1 ⟨d, mb, B, rfl, hde, hg1⟩
      have HO := kv_open0 hde
      clear HD hde hg1
      go_wp2_with fail
      refine HO.mono ?_
      rintro e w2 ⟨sb, rfl, hkv, hg2⟩
      have HT2 : Hid (TwoAt w w2 d mb sb 0 k) := ⟨_, hkv, rfl⟩
      clear HO hg2 hkv
      go_wp2_with fail
      refine (HLK.out _).mono ?_
      rintro e w3 ⟨rfl, rfl⟩
      go_wp2_with fail
      go_loopw [16] (fun t16 wr => ∃ i : Nat, i ≤ 5 ∧ t16 = .int .i64 i ∧ TwoAt w wr d mb sb i k) (fun t16 _ => 5 - (intOf t16).toNat)
      case atStart => exact ⟨0, by omega, rfl, HT2.out⟩
      case round =>
        obtain ⟨i, hi, rfl, hT⟩ := hrel
        have HT : Hid (TwoAt w wr d mb sb i k) := hT
        clear hT HT2
        go_wp2_with fail
        refine (Low_any t wr).mono ?_
        rintro e w4 ⟨r, rfl, hr0, hr1, rfl⟩
        by_cases hlt : (i : Int) < 1 + r % 5
        · have hi5 : i < 5 := by omega
          have HG := two_get HT.out HK.out
          go_wp2_with fail
          refine HG.mono ?_
          rintro e w5 ⟨xa, xL, xC, rfl, hT5, hg5⟩
          have HT5 : Hid (TwoAt w w5 d mb sb i k) := hT5
          clear HG hT5 hg5 HT
          have HC := HCA.out w5 HT5.out.from_
          go_wp2_with fail
          refine HC.mono ?_
          rintro e w6 ⟨g6, c6, rfl, hr6, hg6⟩
          have HS := two_set (HT5.out.grown hg6) HK.out (by omega) (some ⟨g6, 0, none⟩) za La c6 hr6 HRA.out.2.1 HA6.out.1
          clear HC hr6 hg6 HT5
          go_wp2_with fail
          refine HS.mono ?_
          rintro e w7 ⟨rfl, hN7⟩
          have HN7 : Hid (TwoNow w w7 d mb sb (i + 1) k za) := hN7
          clear HS hN7
          have HC := HCB.out w7 HN7.out.from_
          go_wp2_with fail
          refine HC.mono ?_
          rintro e w8 ⟨g8, c8, rfl, hr8, hg8⟩
          have HS := two_not (HN7.out.grown hg8) HK.out (some ⟨g8, 0, none⟩) Lb c8
          clear HC hr8 hg8 HN7
          go_wp2_with fail
          refine HS.mono ?_
          rintro e w9 ⟨rfl, hN9⟩
          have HN9 : Hid (TwoNow w w9 d mb sb (i + 1) k za) := hN9
          clear HS hN9
          have HG := two_read HN9.out HK.out HRA.out.1.2 La HRA.out.2.1
          go_wp2_with fail
          refine HG.mono ?_
          rintro e w10 ⟨ya, yC, rfl, hry, hN10⟩
          have HN10 : Hid (TwoNow w w10 d mb sb (i + 1) k za) := hN10
          have HSM : Hid (Calls Tryz.prog 21 #[.slice (some ya) La yC, .slice aa La ca] w10 fun e w' => e = .returned (.bool true) ∧ w10.grownBy w' none) := by
            refine (same_any (some ya) aa za za La La yC ca w10 hry (HRA.out.1.grown hN10.from_ (by simp)) HRA.out.2.1 HRA.out.2.1 (by omega)).mono ?_
            rintro e w' ⟨rfl, hg⟩
            exact ⟨by simp, hg⟩
          clear HG hN10 hry HN9
          go_wp2_with fail
          refine HSM.out.mono ?_
          rintro e w11 ⟨rfl, hg11⟩
          have HT11 : Hid (TwoAt w w11 d mb sb (i + 1) k) := (HN10.out.grown hg11).at_
          clear hg11 HSM HN10
          go_wp2
          go_roundw
          case rel => exact ⟨i + 1, by omega, by go_num, HT11.out⟩
          case measure => simp [intOf]; omega
        · have HC := HAW.out _ HT.out.from_
          go_wp2_with fail
          refine HC.mono ?_
          rintro e w5 ⟨rfl, hg5⟩
          have HG5 : Hid (w.grownBy w5 none) := hg5
          clear hg5 HC
          go_wp2
          go_ret
          exact ⟨rfl, HG5.out⟩
    · have q12 : (decide ((60000 : Int) < (La : Int)) = true) ∨ (decide ((60000 : Int) < (La : Int)) = false ∧ decide ((60000 : Int) < (Lb : Int)) = true) := by
        by_cases h1 : 60000 < La
        · left; simp; omega
        · right; refine ⟨by simp; omega, by simp; omega⟩
      clear hlong
      rcases q12 with q1 | ⟨q1, q2⟩
      all_goals
        go_enter Tryz.func5, Tryz.ntmps5
        go_wp2_with fail
        refine HD.out.mono ?_
        rintro e w1 ⟨d, mb, B, rfl, hde, hg1⟩
        have HO := kv_open0 hde
        have HG1 : Hid (w.grownBy w1 none) := hg1
        clear HD hde hg1
        go_wp2_with fail
        refine HO.mono ?_
        rintro e w2 ⟨sb, rfl, _, hg2⟩
        have HG2 : Hid (w.grownBy w2 none) := HG1.out.trans hg2
        clear HO hg2
        go_wp2_with fail
        refine (HLK.out _).mono ?_
        rintro e w3 ⟨rfl, rfl⟩
        go_wp2_with fail
        refine (HAW.out _ HG2.out).mono ?_
        rintro e w5 ⟨rfl, hg5⟩
        have HG5 : Hid (w.grownBy w5 none) := hg5
        clear hg5
        go_wp2
        go_ret
        exact ⟨rfl, HG5.out⟩
  · have hkf : kB k = false := by simpa using hk
    rw [hkf] at HLK
    have HSN : Hid (∀ sb w1, Calls Tryz.prog 19 #[.pointer (some ⟨sb, 0, none⟩), .string k, .slice aa La ca, .int .u64 0] w1 fun e w' => e = .returned (.tuple #[.int .u64 0, .int .i64 120]) ∧ w1.grownBy w' none) := fun sb w1 => k_setNot sb k aa La ca 0 w1 hkf (by omega)
    have HGN : Hid (∀ sb w1, Calls Tryz.prog 20 #[.pointer (some ⟨sb, 0, none⟩), .string k] w1 fun e w' => e = .returned (.tuple #[.slice none 0 0, .int .u64 0, .int .i64 120]) ∧ w1.grownBy w' none) := fun sb w1 => k_getNot sb k w1 hkf (by omega)
    clear hk hkf HCA HCB HRA HRB
    go_enter Tryz.func5, Tryz.ntmps5
    go_wp2_with fail
    refine HD.out.mono ?_
    rintro e w1 ⟨d, mb, B, rfl, hde, hg1⟩
    have HO := kv_open0 hde
    have HG1 : Hid (w.grownBy w1 none) := hg1
    clear HD hde hg1
    go_wp2_with fail
    refine HO.mono ?_
    rintro e w2 ⟨sb, rfl, _, hg2⟩
    have HG2 : Hid (w.grownBy w2 none) := HG1.out.trans hg2
    clear HO hg2
    go_wp2_with fail
    refine (HLK.out _).mono ?_
    rintro e w3 ⟨rfl, rfl⟩
    go_wp2_with fail
    refine (HSN.out sb _).mono ?_
    rintro e w3 ⟨rfl, hg3⟩
    have HG3 : Hid (w.grownBy w3 none) := HG2.out.trans hg3
    clear hg3
    go_wp2_with fail
    refine (HGN.out sb _).mono ?_
    rintro e w4 ⟨rfl, hg4⟩
    have HG4 : Hid (w.grownBy w4 none) := HG3.out.trans hg4
    clear hg4
    go_wp2_with fail
    refine (HAW.out _ HG4.out).mono ?_
    rintro e w5 ⟨rfl, hg5⟩
    have HG5 : Hid (w.grownBy w5 none) := hg5
    clear hg5
    go_wp2
    go_ret
    exact ⟨rfl, HG5.out⟩
end Go.Proofs.YtgpgkpciajajcaaGreatDoor

/- KvMany: its maths; what its calls come to. -/
namespace Go.Proofs.YtgpgkpciajajcaaGreatDoor
open Go.RowKit Go.Maps Go.Sort
set_option linter.unusedVariables false
set_option maxRecDepth 20000

def keyN (j : Nat) : ByteArray := if j % 2 = 0 then kA else kBb
theorem keyN_kB (j : Nat) : kB (keyN j) = true := by unfold keyN; split <;> decide
theorem kA_ne : kA ≠ kBb := by decide
theorem keyN_eq {i j : Nat} (h : i % 2 = j % 2) : keyN i = keyN j := by unfold keyN; rw [h]
theorem keyN_ne {i j : Nat} (h : i % 2 ≠ j % 2) : keyN i ≠ keyN j := by
  unfold keyN
  by_cases hi : i % 2 = 0
  · rw [if_pos hi, if_neg (by omega)]; exact kA_ne
  · rw [if_neg hi, if_pos (by omega)]; exact fun e => kA_ne e.symm
/-- The registers behind i changes. -/
def manyF (za : List Int) : Nat → ByteArray → Option Reg
  | 0 => fun _ => none
  | i + 1 => setR (manyF za i) (keyN i) (some (i / 2 + 1, strOfNums (za ++ [(i : Int) % 256])))
theorem many_ver (za : List Int) (j : Nat) : ∀ i, ((manyF za i (keyN j)).getD reg0).1 = (i + 1 - j % 2) / 2
  | 0 => by show 0 = _; omega
  | i + 1 => by
    show ((setR (manyF za i) (keyN i) _ (keyN j)).getD reg0).1 = _
    by_cases h : j % 2 = i % 2
    · rw [keyN_eq h, setR_same]
      show i / 2 + 1 = _
      omega
    · rw [setR_other _ _ (keyN_ne h), many_ver za j i]
      omega
def lastN2 (n k : Nat) : Nat := if (n - 1) % 2 = k then n - 1 else n - 2
theorem many_get (za : List Int) (k : Nat) (hk : k < 2) : ∀ n, k < n → manyF za n (keyN k) = some (lastN2 n k / 2 + 1, strOfNums (za ++ [(lastN2 n k : Int) % 256]))
  | 0, h => by omega
  | n + 1, h => by
    show setR (manyF za n) (keyN n) _ (keyN k) = _
    by_cases h1 : k % 2 = n % 2
    · rw [keyN_eq h1, setR_same]
      have e : lastN2 (n + 1) k = n := by unfold lastN2; rw [if_pos (by omega)]; omega
      rw [e]
    · rw [setR_other _ _ (keyN_ne h1), many_get za k hk n (by omega)]
      have e : lastN2 (n + 1) k = lastN2 n k := by
        unfold lastN2
        rw [if_neg (by omega), if_pos (by omega)]
        omega
      rw [e]
theorem many_some (za : List Int) : ∀ n s r, manyF za n s = some r → (s = kA ∨ s = kBb) ∧ r.2.size = za.length + 1 ∧ r.1 ≤ n + 1
  | 0, s, r, h => by cases h
  | n + 1, s, r, h => by
    have h' : setR (manyF za n) (keyN n) (some (n / 2 + 1, strOfNums (za ++ [(n : Int) % 256]))) s = some r := h
    by_cases e : s = keyN n
    · subst e
      rw [setR_same] at h'
      cases h'
      refine ⟨by unfold keyN; split <;> simp, by rw [str_size]; simp, by dsimp only; omega⟩
    · rw [setR_other _ _ e] at h'
      have := many_some za n s r h'
      exact ⟨this.1, this.2.1, by omega⟩
theorem logB_le (B : Nat) : ∀ recs : List (List Int), (∀ r ∈ recs, (frameR r).length ≤ B) → (logB frameR recs).length ≤ recs.length * B
  | [], _ => by simp [logB]
  | r :: rs, h => by
    rw [logB_cons, List.length_append, List.length_cons, Nat.succ_mul]
    have h1 := h r (by simp)
    have h2 := logB_le B rs (fun r hr => h r (List.mem_cons_of_mem _ hr))
    omega
theorem few_keys {l : List ByteArray} (hn : l.Nodup) (h : ∀ s ∈ l, s = kA ∨ s = kBb) : l.length ≤ 2 := by
  match l, hn, h with
  | [], _, _ => simp
  | [_], _, _ => simp
  | [_, _], _, _ => simp
  | x :: y :: z :: r, hn, h =>
    exfalso
    have hx := h x (by simp)
    have hy := h y (by simp)
    have hz := h z (by simp)
    simp only [List.nodup_cons, List.mem_cons, not_or] at hn
    rcases hx with rfl | rfl <;> rcases hy with rfl | rfl <;> rcases hz with rfl | rfl <;> simp at hn
theorem many_room (za : List Int) (hz : za.length ≤ 2000) (n : Nat) (hn : n ≤ 1000) : CutRoom (manyF za n) := by
  intro l hl
  have hl2 : l.length ≤ 2 := few_keys hl.1 (fun s hs => by
    obtain ⟨r, hr⟩ := Option.isSome_iff_exists.1 ((hl.2.2 s).1 hs).1
    exact (many_some za n s r hr).1)
  have h1 : ∀ r ∈ recsL (allR (manyF za n) l), (frameR r).length ≤ 5000 := by
    intro r hr
    unfold recsL allR at hr
    rw [List.map_map, List.mem_map] at hr
    obtain ⟨s, hs, rfl⟩ := hr
    obtain ⟨q, hq⟩ := Option.isSome_iff_exists.1 ((hl.2.2 s).1 hs).1
    have h2 := many_some za n s q hq
    have hsz : s.size = 1 := by rcases h2.1 with rfl | rfl <;> rfl
    show (frameR (recL s ((manyF za n s).getD reg0))).length ≤ 5000
    rw [hq]
    have h3 := recL_len s q
    have h4 := enc_len s.size (by omega)
    have h5 := enc_len q.1 (by omega)
    have h6 := enc_len q.2.size (by omega)
    have h7 : (recL s q).length ≤ 4000 := by omega
    have h8 := enc_len (recL s q).length (by omega)
    have h9 : (four (sumR (recL s q))).length = 4 := rfl
    show (frameR (recL s q)).length ≤ 5000
    rw [frameR]
    simp only [List.length_append, h9]
    omega
  have h2 := logB_le 5000 _ h1
  rw [recsL_len, allR_len] at h2
  omega
def ManyAt (W w : World) (d mb sb i : Nat) (za : List Int) : Prop := KvS W w d mb sb i (manyF za i)
theorem many_set {W w : World} {d mb sb i : Nat} {za : List Int} (h : ManyAt W w d mb sb i za) (hz : za.length ≤ 2000) (hi : i ≤ 400) (a : Option Addr) (L c q : Nat) (y : Int) (hr : Rd w a (za ++ [y])) (hL : za.length + 1 = L) (hy : y = (i : Int) % 256) (hq : q = i / 2) :
    Calls Tryz.prog 19 #[.pointer (some ⟨sb, 0, none⟩), .string (keyN i), .slice a L c, .int .u64 (q : Int)] w fun e w' => (∃ u, e = .returned (.tuple #[u, .int .i64 0])) ∧ ManyAt W w' d mb sb (i + 1) za := by
  have hv : ((manyF za i (keyN i)).getD reg0).1 = q := by rw [many_ver, hq]; omega
  have h1 := many_room za hz (i + 1) (by omega)
  have h2 : manyF za (i + 1) = setR (manyF za i) (keyN i) (some (q + 1, strOfNums (za ++ [y]))) := by rw [hy, hq]; rfl
  have := kv_set h (keyN i) a (za ++ [y]) L c (keyN_kB i) hr (by simp; omega) (by rw [hv]; omega) (by omega) (by omega) (.inr (by rw [hv, ← h2]; exact h1))
  rw [hv, ← h2] at this
  refine this.mono ?_
  rintro e w' ⟨rfl, k1⟩
  exact ⟨⟨_, rfl⟩, k1⟩
theorem inK : (inN dirK).data.toList = [107, 118, 47] := rfl
/-- The files of the log. -/
theorem many_list {W w : World} {d mb sb i : Nat} {F : ByteArray → Option Reg} (h : KvS W w d mb sb i F) (hi : i ≤ 1000) :
    Calls Tryz.prog 24 #[.pointer (some ⟨d, 0, none⟩), .string ⟨#[107, 118, 47]⟩] w fun e w' => ∃ a c l, e = .returned (.slice a l c) ∧ l ≤ 66 ∧ w.grownBy w' none := by
  obtain ⟨n, x, p, mr, m, K, Ls, A, B, rs, h1, h2, h3, h4, h5, h6, h7⟩ := h
  refine (x_list W.heap.size d mb n x B ⟨#[107, 118, 47]⟩ w h1.se.at_.disk h1.se.calm.on (by omega)).mono ?_
  rintro e w' ⟨a, c, l, rfl, _, hg', hN, _⟩
  refine ⟨a, c, _, rfl, ?_, hg'⟩
  have hnm := h1.se.log.folder.names
  have hlen : l.length = (namesL dirK (cpNums K) false (Ls.map Prod.fst)).length := by rw [NamesOf.uniq hN (show NamesOf x.V ⟨#[107, 118, 47]⟩ _ from hnm)]
  rw [names_len, List.length_map] at hlen
  have hcp : (cpNums K).length ≤ 1 := by cases K <;> simp [cpNums]
  simp only [dl, Bool.false_eq_true, if_false] at hlen
  omega
theorem many_read {W w : World} {d mb sb i : Nat} {za : List Int} (h : ManyAt W w d mb sb i za) (k : Nat) (hk : k < 2) (hki : k < i) (hz : ∀ z ∈ za, 0 ≤ z ∧ z ≤ 255) (L : Nat) (hL : za.length = L) :
    Calls Tryz.prog 20 #[.pointer (some ⟨sb, 0, none⟩), .string (keyN k)] w fun e w' => ∃ a C, e = .returned (.tuple #[.slice (some a) (L + 1) C, .int .u64 ((lastN2 i k / 2 + 1 : Nat) : Int), .int .i64 0]) ∧ Rd w' (some a) (za ++ [(lastN2 i k : Int) % 256]) ∧ w.grownBy w' none := by
  have := kv_get h (keyN k) (keyN_kB k)
  rw [many_get za k hk i hki] at this
  refine this.mono ?_
  rintro e w' ⟨a, C, rfl, k1, k2⟩
  refine ⟨a, C, ?_, ?_, k2⟩
  · show Ending.returned (.tuple #[.slice (some a) (strOfNums (za ++ [(lastN2 i k : Int) % 256])).size C, .int .u64 ((lastN2 i k / 2 + 1 : Nat) : Int), .int .i64 0]) = _
    rw [str_size, List.length_append, hL]
    rfl
  · have k1' : Rd w' (some a) (sInts (strOfNums (za ++ [(lastN2 i k : Int) % 256]))) := k1
    rw [ints_back (fun z hz' => by
      rcases List.mem_append.1 hz' with h | h
      · exact hz z h
      · simp at h; omega)] at k1'
    exact k1'
end Go.Proofs.YtgpgkpciajajcaaGreatDoor

