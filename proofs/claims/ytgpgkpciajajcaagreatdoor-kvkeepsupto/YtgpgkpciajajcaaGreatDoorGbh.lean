/- Several texts in one: Kl, Km, Kn, Lr, Lt. -/
import Derived.Test.YtgpgkpciajajcaaGreatDoorGbf
import Derived.Test.YtgpgkpciajajcaaGreatDoorGbg
/- Package kv: what every program answers: awake. -/
namespace Go.Proofs.YtgpgkpciajajcaaGreatDoor
open Go.RowKit Go.Maps Go.Sort
set_option linter.unusedVariables false
set_option maxRecDepth 20000

def kA : ByteArray := ⟨#[97]⟩
def kBb : ByteArray := ⟨#[98]⟩
def FA : ByteArray → Option Reg := setR (fun _ => none) kA (some (1, ⟨#[1, 2]⟩))
theorem FA_a : FA kA = some (1, ⟨#[1, 2]⟩) := setR_same _ _ _
theorem FA_b : FA kBb = none := setR_other _ _ (by decide)
theorem kv_setA {W w : World} {d mb sb : Nat} (h : KvS W w d mb sb 0 (fun _ => none)) (a : Option Addr) (hr : Rd w a [1, 2]) :
    Calls Tryz.prog 19 #[.pointer (some ⟨sb, 0, none⟩), .string ⟨#[97]⟩, .slice a 2 2, .int .u64 0] w fun e w' => e = .returned (.tuple #[.int .u64 1, .int .i64 0]) ∧ KvS W w' d mb sb 1 FA :=
  kv_set h kA a [1, 2] 2 2 (by decide) hr rfl (by decide) (by decide) (by decide) (.inl (by decide))
theorem keysA {l : List ByteArray} (h : KeysOf FA ⟨#[]⟩ l) : l = [nmA] := by
  have h1 : ∀ s, s ∈ l ↔ s ∈ [nmA] := by
    intro s
    rw [h.2.2 s]
    constructor
    · rintro ⟨h1, _⟩
      by_cases e : s = kA
      · subst e; simp [nmA, kA]
      · unfold FA at h1
        rw [setR_other _ _ e] at h1
        cases h1
    · intro h1
      simp at h1
      subst h1
      exact ⟨by show (FA kA).isSome = true; rw [FA_a]; rfl, by simp [Lib.hasPrefix]⟩
  rw [← srt_self h.2.1, srt_eq h.1 (by simp) h1]
  exact srt_self (by simp)
set_option maxHeartbeats 8000000 in
theorem kv_awake (w : World) (ht : Tab w) : Calls Tryz.prog 16 #[] w fun e w' => e = .returned (.bool true) ∧ w.grownBy w' none := by
  have HD : Hid (Calls Tryz.prog 7 #[] w fun e w' => ∃ d mb B, e = .returned (.pointer (some ⟨d, 0, none⟩)) ∧ De w w' d mb 0 x0 dirK none [] B ∧ w.grownBy w' none) := kv_disk w ht
  clear ht
  go_enter Tryz.func16, Tryz.ntmps16
  go_wp2_with fail
  refine HD.out.mono ?_
  rintro e w1 ⟨d, mb, B, rfl, hde, _⟩
  have HO := kv_open0 hde
  clear HD hde
  go_wp2_with fail
  refine HO.mono ?_
  rintro e w2 ⟨sb, rfl, hkv, _⟩
  have HS := kv_setA (hkv.grown (World.grownBy_alloc w2 (.cells #[.int .u8 1, .int .u8 2] 5) none)) (some ⟨w2.heap.size, 0, none⟩) (rd_lit w2 [1, 2] (by simp))
  clear HO hkv
  go_wp2_with fail
  refine HS.mono ?_
  rintro e w3 ⟨rfl, hkv⟩
  have HV := kv_setVer hkv kA none 0 0 0 (by decide) (by rw [FA_a]; decide)
  rw [FA_a] at HV
  have HV' : Hid (Calls Tryz.prog 19 #[.pointer (some ⟨sb, 0, none⟩), .string ⟨#[97]⟩, .slice none 0 0, .int .u64 0] w3 fun e w' => e = .returned (.tuple #[.int .u64 1, .int .i64 121]) ∧ w3.grownBy w' none) := HV
  have HKV : Hid (KvS w w3 d mb sb 1 FA) := hkv
  clear HS hkv HV
  go_wp2_with fail
  refine HV'.out.mono ?_
  rintro e w4 ⟨rfl, hg4⟩
  have HKV4 : Hid (KvS w w4 d mb sb 1 FA) := HKV.out.grown hg4
  have HG := kv_get HKV4.out kA (by decide)
  rw [FA_a] at HG
  have HG' : Hid (Calls Tryz.prog 20 #[.pointer (some ⟨sb, 0, none⟩), .string ⟨#[97]⟩] w4 fun e w' => ∃ a C, e = .returned (.tuple #[.slice (some a) 2 C, .int .u64 1, .int .i64 0]) ∧ Rd w' (some a) [1, 2] ∧ w4.grownBy w' none) := HG
  clear HKV hg4 HV' HG
  go_wp2_with fail
  refine HG'.out.mono ?_
  rintro e w5 ⟨xa, xC, rfl, hxr, hg5⟩
  have HKV5 : Hid (KvS w w5 d mb sb 1 FA) := HKV4.out.grown hg5
  have HXR : Hid (Rd w5 (some xa) [1, 2]) := hxr
  have HB := kv_get HKV5.out kBb (by decide)
  rw [FA_b] at HB
  have HB' : Hid (Calls Tryz.prog 20 #[.pointer (some ⟨sb, 0, none⟩), .string ⟨#[98]⟩] w5 fun e w' => ∃ a C, e = .returned (.tuple #[.slice (some a) 0 C, .int .u64 0, .int .i64 0]) ∧ Rd w' (some a) [] ∧ w5.grownBy w' none) := HB
  clear HKV4 hg5 hxr HG' HB
  go_wp2_with fail
  refine HB'.out.mono ?_
  rintro e w6 ⟨ya, yC, rfl, _, hg6⟩
  have HKV6 : Hid (KvS w w6 d mb sb 1 FA) := HKV5.out.grown hg6
  have hal := World.grownBy_alloc w6 (.cells #[.int .u8 1, .int .u8 2] 5) none
  have HSM : Hid (Calls Tryz.prog 21 #[.slice (some xa) 2 xC, .slice (some ⟨w6.heap.size, 0, none⟩) 2 2] (w6.alloc (.cells #[.int .u8 1, .int .u8 2] 5)) fun e w' => e = .returned (.bool true) ∧ w6.grownBy w' none) := by
    refine (same_any (some xa) (some ⟨w6.heap.size, 0, none⟩) [1, 2] [1, 2] 2 2 xC 2 _ ((HXR.out.grown hg6 (by simp)).grown hal (by simp)) (rd_lit w6 [1, 2] (by simp)) rfl rfl (by omega)).mono ?_
    rintro e w' ⟨rfl, hg⟩
    exact ⟨by simp, hal.trans hg⟩
  clear HKV5 hg6 HXR hal HB'
  go_wp2_with fail
  refine HSM.out.mono ?_
  rintro e w7 ⟨rfl, hg7⟩
  have HKV7 : Hid (KvS w w7 d mb sb 1 FA) := HKV6.out.grown hg7
  have HKS : Hid (Calls Tryz.prog 38 #[.pointer (some ⟨sb, 0, none⟩), .string ⟨#[]⟩] w7 fun e w' => ∃ a c, e = .returned (.slice a 1 c) ∧ SRd strE w' a [nmA] ∧ w7.grownBy w' none) := by
    refine (kv_keys HKV7.out ⟨#[]⟩ (by omega)).mono ?_
    rintro e w' ⟨a, c, l, rfl, k1, k2, k3⟩
    obtain rfl := keysA k3
    exact ⟨a, c, rfl, SOwn.rd k1, k2⟩
  clear HKV6 hg7 HSM
  go_wp2_with fail
  refine HKS.out.mono ?_
  rintro e w8 ⟨ka, kc, rfl, hks, hg8⟩
  have HG8 : Hid (w.grownBy w8 none) := HKV7.out.from_.trans hg8
  have hal := World.grownBy_alloc w8 (.cells #[.string ⟨#[97]⟩] 9) none
  have HST : Hid (Calls Tryz.prog 37 #[.slice ka 1 kc, .slice (some ⟨w8.heap.size, 0, none⟩) 1 1] (w8.alloc (.cells #[.string ⟨#[97]⟩] 9)) fun e w' => e = .returned (.bool true) ∧ w.grownBy w' none) := by
    refine (same1 ka (some ⟨w8.heap.size, 0, none⟩) kc 1 _ (hks.grown hal (by simp)) (slit w8 [nmA])).mono ?_
    rintro e w' ⟨rfl, hg⟩
    exact ⟨rfl, (HG8.out.trans hal).trans hg⟩
  clear HKV7 hks hg8 hal HKS
  go_wp2_with fail
  refine HST.out.mono ?_
  rintro e w9 ⟨rfl, hg9⟩
  have HG9 : Hid (w.grownBy w9 none) := hg9
  clear hg9 HST
  go_wp2
  go_ret
  exact ⟨rfl, HG9.out⟩
end Go.Proofs.YtgpgkpciajajcaaGreatDoor

/- KvTwo: the walk. -/
namespace Go.Proofs.YtgpgkpciajajcaaGreatDoor
open Go.RowKit Go.Maps Go.Sort
set_option linter.unusedVariables false
set_option maxRecDepth 20000

theorem ints_back {zs : List Int} (h : ∀ z ∈ zs, 0 ≤ z ∧ z ≤ 255) : sInts (strOfNums zs) = zs := by
  unfold sInts strOfNums
  simp only [List.map_map]
  conv => rhs; rw [← List.map_id zs]
  refine List.map_congr_left (fun z hz => ?_)
  have := h z hz
  simp only [Function.comp, UInt8.toNat_ofNat', id]
  omega
/-- Two writers, i rounds. -/
def TwoAt (W w : World) (d mb sb i : Nat) (k : ByteArray) : Prop := ∃ F, KvS W w d mb sb i F ∧ ((F k).getD reg0).1 = i
/-- .. behind a change. -/
def TwoNow (W w : World) (d mb sb i : Nat) (k : ByteArray) (zs : List Int) : Prop := ∃ F, KvS W w d mb sb i F ∧ F k = some (i, strOfNums zs)
theorem TwoNow.grown {W w w' : World} {d mb sb i : Nat} {k : ByteArray} {zs : List Int} (h : TwoNow W w d mb sb i k zs) (hg : w.grownBy w' none) : TwoNow W w' d mb sb i k zs := by
  obtain ⟨F, h1, h2⟩ := h
  exact ⟨F, h1.grown hg, h2⟩
theorem TwoNow.at_ {W w : World} {d mb sb i : Nat} {k : ByteArray} {zs : List Int} (h : TwoNow W w d mb sb i k zs) : TwoAt W w d mb sb i k := by
  obtain ⟨F, h1, h2⟩ := h
  exact ⟨F, h1, by rw [h2]; rfl⟩
theorem TwoNow.from_ {W w : World} {d mb sb i : Nat} {k : ByteArray} {zs : List Int} (h : TwoNow W w d mb sb i k zs) : W.grownBy w none := by
  obtain ⟨F, h1, h2⟩ := h
  exact h1.from_
theorem TwoAt.from_ {W w : World} {d mb sb i : Nat} {k : ByteArray} (h : TwoAt W w d mb sb i k) : W.grownBy w none := by
  obtain ⟨F, h1, h2⟩ := h
  exact h1.from_
theorem TwoAt.grown {W w w' : World} {d mb sb i : Nat} {k : ByteArray} (h : TwoAt W w d mb sb i k) (hg : w.grownBy w' none) : TwoAt W w' d mb sb i k := by
  obtain ⟨F, h1, h2⟩ := h
  exact ⟨F, h1.grown hg, h2⟩
end Go.Proofs.YtgpgkpciajajcaaGreatDoor

/- KvMany: its maths; what its calls come to. -/
namespace Go.Proofs.YtgpgkpciajajcaaGreatDoor
open Go.RowKit Go.Maps Go.Sort
set_option linter.unusedVariables false
set_option maxRecDepth 20000

def keyN (j : Nat) : ByteArray := if j % 2 = 0 then kA else kBb
/-- The registers behind i changes. -/
def manyF (za : List Int) : Nat → ByteArray → Option Reg
  | 0 => fun _ => none
  | i + 1 => setR (manyF za i) (keyN i) (some (i / 2 + 1, strOfNums (za ++ [(i : Int) % 256])))
def lastN2 (n k : Nat) : Nat := if (n - 1) % 2 = k then n - 1 else n - 2
theorem logB_le (B : Nat) : ∀ recs : List (List Int), (∀ r ∈ recs, (frameR r).length ≤ B) → (logB frameR recs).length ≤ recs.length * B
  | [], _ => by simp [logB]
  | r :: rs, h => by
    rw [logB_cons, List.length_append, List.length_cons, Nat.succ_mul]
    have h1 := h r (by simp)
    have h2 := logB_le B rs (fun r hr => h r (List.mem_cons_of_mem _ hr))
    omega
def ManyAt (W w : World) (d mb sb i : Nat) (za : List Int) : Prop := KvS W w d mb sb i (manyF za i)
end Go.Proofs.YtgpgkpciajajcaaGreatDoor

/- KvKeeps: its maths; what its calls come to. -/
namespace Go.Proofs.YtgpgkpciajajcaaGreatDoor
open Go.RowKit Go.Maps Go.Sort
set_option linter.unusedVariables false
set_option maxRecDepth 20000

def kC : ByteArray := ⟨#[99]⟩
def nmK (k : Nat) : ByteArray := if k = 0 then kA else if k = 1 then kBb else kC
theorem nmK_kB (k : Nat) : kB (nmK k) = true := by
  unfold nmK
  split
  · decide
  · split <;> decide
theorem nmK_size (k : Nat) : (nmK k).size = 1 := by
  unfold nmK
  split
  · rfl
  · split <;> rfl
theorem nmK_inj {j k : Nat} (hj : j < 3) (hk : k < 3) (h : nmK j = nmK k) : j = k := by
  have h1 : kA ≠ kBb := by decide
  have h2 : kA ≠ kC := by decide
  have h3 : kBb ≠ kC := by decide
  obtain rfl | rfl | rfl : j = 0 ∨ j = 1 ∨ j = 2 := by omega
  all_goals obtain rfl | rfl | rfl : k = 0 ∨ k = 1 ∨ k = 2 := by omega
  all_goals first
    | rfl
    | exact absurd h h1
    | exact absurd h h2
    | exact absurd h h3
    | exact absurd h.symm h1
    | exact absurd h.symm h2
    | exact absurd h.symm h3
/-- The register of key k behind m changes. -/
def regK (k m : Nat) : Option Reg := if m = 0 then none else some (m, strOfNums [(k : Int), ((m - 1 : Nat) : Int) % 256])
def keepF (c : Nat → Nat) : ByteArray → Option Reg := fun s => if s = nmK 0 then regK 0 (c 0) else if s = nmK 1 then regK 1 (c 1) else if s = nmK 2 then regK 2 (c 2) else none
def updC (c : Nat → Nat) (k : Nat) : Nat → Nat := fun j => if j = k then c k + 1 else c j
theorem keepF_at (c : Nat → Nat) {k : Nat} (hk : k < 3) : keepF c (nmK k) = regK k (c k) := by
  have h1 : nmK 1 ≠ nmK 0 := by decide
  have h2 : nmK 2 ≠ nmK 0 := by decide
  have h3 : nmK 2 ≠ nmK 1 := by decide
  unfold keepF
  obtain rfl | rfl | rfl : k = 0 ∨ k = 1 ∨ k = 2 := by omega
  · rw [if_pos rfl]
  · rw [if_neg h1, if_pos rfl]
  · rw [if_neg h2, if_neg h3, if_pos rfl]
theorem keepF_out (c : Nat → Nat) (s : ByteArray) (h : ∀ k, k < 3 → s ≠ nmK k) : keepF c s = none := by
  unfold keepF
  rw [if_neg (h 0 (by omega)), if_neg (h 1 (by omega)), if_neg (h 2 (by omega))]
theorem keepF_some {c : Nat → Nat} {s : ByteArray} {r : Reg} (h : keepF c s = some r) : ∃ k, k < 3 ∧ s = nmK k ∧ r = (c k, strOfNums [(k : Int), ((c k - 1 : Nat) : Int) % 256]) := by
  by_cases hs : ∃ k, k < 3 ∧ s = nmK k
  · obtain ⟨k, hk, rfl⟩ := hs
    rw [keepF_at c hk] at h
    unfold regK at h
    split at h
    · cases h
    · cases h
      exact ⟨k, hk, rfl, rfl⟩
  · rw [keepF_out c s (fun k hk e => hs ⟨k, hk, e⟩)] at h
    cases h
theorem keepF_ver (c : Nat → Nat) {k : Nat} (hk : k < 3) : ((keepF c (nmK k)).getD reg0).1 = c k := by
  rw [keepF_at c hk]
  unfold regK
  split
  · rename_i h
    rw [h]
    rfl
  · rfl
theorem keepF_set (c : Nat → Nat) {k : Nat} (hk : k < 3) : setR (keepF c) (nmK k) (some (c k + 1, strOfNums [(k : Int), (c k : Int) % 256])) = keepF (updC c k) := by
  funext s
  by_cases hs : ∃ j, j < 3 ∧ s = nmK j
  · obtain ⟨j, hj, rfl⟩ := hs
    rw [keepF_at _ hj]
    by_cases e : j = k
    · subst e
      rw [setR_same]
      unfold regK updC
      rw [if_pos rfl, if_neg (by omega), Nat.add_sub_cancel]
    · rw [setR_other _ _ (fun h => e (nmK_inj hj hk h)), keepF_at _ hj]
      unfold updC
      rw [if_neg e]
  · have hs' : ∀ j, j < 3 → s ≠ nmK j := fun j hj e => hs ⟨j, hj, e⟩
    rw [setR_other _ _ (hs' k hk), keepF_out c s hs', keepF_out _ s hs']
theorem keepF_zero : keepF (fun _ => 0) = fun _ => none := by
  funext s
  unfold keepF regK
  simp
theorem recK_len (k m : Nat) (hm : m < 2097152) (y : Int) : (recL (nmK k) (m, strOfNums [(k : Int), y])).length ≤ 8 := by
  have h1 := recL_len (nmK k) (m, strOfNums [(k : Int), y])
  have h2 := nmK_size k
  have h3 : (strOfNums [(k : Int), y]).size = 2 := str_size _
  have h4 := enc_len_le 0 (nmK k).size (by omega)
  have h5 := enc_len_le 2 m (by omega)
  have h6 := enc_len_le 0 (strOfNums [(k : Int), y]).size (by omega)
  dsimp only at h1
  omega
theorem frameK_len (r : List Int) (h : r.length ≤ 8) : (frameR r).length ≤ 20 := by
  have h1 := enc_len_le 0 r.length (by omega)
  have h9 : (four (sumR r)).length = 4 := rfl
  rw [frameR]
  simp only [List.length_append, h9]
  omega
theorem few3 {l : List ByteArray} (hn : l.Nodup) (h : ∀ s ∈ l, ∃ k, k < 3 ∧ s = nmK k) : l.length ≤ 3 := by
  match l, hn, h with
  | [], _, _ => simp
  | [_], _, _ => simp
  | [_, _], _, _ => simp
  | [_, _, _], _, _ => simp
  | x :: y :: z :: u :: r, hn, h =>
    exfalso
    obtain ⟨a, ha, rfl⟩ := h x (by simp)
    obtain ⟨b, hb, rfl⟩ := h y (by simp)
    obtain ⟨c, hc, rfl⟩ := h z (by simp)
    obtain ⟨e, he, rfl⟩ := h u (by simp)
    simp only [List.nodup_cons, List.mem_cons, not_or] at hn
    obtain ⟨⟨h1, h2, h3, _⟩, ⟨h4, h5, _⟩, ⟨h6, _⟩, _⟩ := hn
    have g1 : a ≠ b := fun e => h1 (by rw [e])
    have g2 : a ≠ c := fun e => h2 (by rw [e])
    have g3 : a ≠ e := fun e => h3 (by rw [e])
    have g4 : b ≠ c := fun e => h4 (by rw [e])
    have g5 : b ≠ e := fun e => h5 (by rw [e])
    have g6 : c ≠ e := fun e => h6 (by rw [e])
    omega
theorem keep_room (c : Nat → Nat) (hc : ∀ k, c k < 2097152) : CutRoom (keepF c) := by
  intro l hl
  have hl3 : l.length ≤ 3 := few3 hl.1 (fun s hs => by
    obtain ⟨r, hr⟩ := Option.isSome_iff_exists.1 ((hl.2.2 s).1 hs).1
    obtain ⟨k, hk, e, _⟩ := keepF_some hr
    exact ⟨k, hk, e⟩)
  have h1 : ∀ r ∈ recsL (allR (keepF c) l), (frameR r).length ≤ 20 := by
    intro r hr
    unfold recsL allR at hr
    rw [List.map_map, List.mem_map] at hr
    obtain ⟨s, hs, rfl⟩ := hr
    obtain ⟨q, hq⟩ := Option.isSome_iff_exists.1 ((hl.2.2 s).1 hs).1
    obtain ⟨k, hk, rfl, rfl⟩ := keepF_some hq
    show (frameR (recL (nmK k) ((keepF c (nmK k)).getD reg0))).length ≤ 20
    rw [hq]
    exact frameK_len _ (recK_len k _ (hc k) _)
  have h2 := logB_le 20 _ h1
  rw [recsL_len, allR_len] at h2
  omega
/-- The bytes of the last segment. -/
def lastB (Ls : Sg) : Nat := match Ls.getLast? with
  | none => 0
  | some q => (logB frameR q.2).length
theorem pot_add (K : Kp) (Ls : Sg) (rec : List Int) (i cu s : Nat) (hr : (frameR rec).length ≤ 20) (h1 : openN K Ls = 1 + cu + s) (h2 : 4096 * s + lastB Ls ≤ 20 * i) (h3 : 64 * cu + (Ls.length - 1) ≤ s) : ∃ s', openN K (addL K Ls rec) = 1 + cu + s' ∧ 4096 * s' + lastB (addL K Ls rec) ≤ 20 * (i + 1) ∧ 64 * cu + ((addL K Ls rec).length - 1) ≤ s' := by
  rcases List.eq_nil_or_concat Ls with rfl | ⟨L0, q, rfl⟩
  · refine ⟨s, ?_, ?_, ?_⟩
    · rw [← h1]
      rfl
    · show 4096 * s + (logB frameR [rec]).length ≤ _
      rw [logB_one]
      have : lastB [] = 0 := rfl
      omega
    · have : (addL K [] rec).length = 1 := rfl
      rw [this]
      simpa using h3
  · rw [List.concat_eq_append] at *
    have hlast : (L0 ++ [q]).getLast? = some q := by simp
    have hb : lastB (L0 ++ [q]) = (logB frameR q.2).length := by unfold lastB; rw [hlast]
    rw [hb] at h2
    rw [openN_snoc] at h1
    by_cases hbig : 4096 ≤ (logB frameR q.2).length
    · have e : addL K (L0 ++ [q]) rec = (L0 ++ [q]) ++ [(q.1 + 1, [rec])] := by unfold addL; rw [hlast]; exact if_pos hbig
      refine ⟨s + 1, ?_, ?_, ?_⟩
      · rw [e, openN_snoc]
        dsimp only
        omega
      · have e2 : lastB (addL K (L0 ++ [q]) rec) = (frameR rec).length := by rw [e]; unfold lastB; rw [List.getLast?_append]; simp [logB_one]
        rw [e2]
        omega
      · rw [e, List.length_append]
        simp at h3 ⊢
        omega
    · have e : addL K (L0 ++ [q]) rec = L0 ++ [(q.1, q.2 ++ [rec])] := by
        unfold addL
        rw [hlast]
        dsimp only
        rw [if_neg hbig]
        simp
      refine ⟨s, ?_, ?_, ?_⟩
      · rw [e, openN_snoc]
        exact h1
      · have e2 : lastB (addL K (L0 ++ [q]) rec) = (logB frameR q.2).length + (frameR rec).length := by rw [e]; unfold lastB; simp [logB_app, logB_one]
        rw [e2]
        omega
      · rw [e]
        simp at h3 ⊢
        omega
/-- The law's own rows stay. -/
def Stays (L : Nat → Prop) (w w' : World) : Prop := ∀ b, L b → w'.heap[b]? = w.heap[b]?
/-- The store behind i changes, c k of key k. -/
def KeAt (W w : World) (d mb sb : Nat) (L : Nat → Prop) (i : Nat) (c : Nat → Nat) : Prop := ∃ n x p mr m K Ls A B rs cu s, KvB W w d mb n x sb p mr m K Ls A B (keepF c) rs ∧ x.wn ≤ 100 * i ∧ Ls.length ≤ 64 ∧ rs.length ≤ i ∧ m ≤ i ∧ openN K Ls = 1 + cu + s ∧ 4096 * s + lastB Ls ≤ 20 * i ∧ 64 * cu + (Ls.length - 1) ≤ s ∧ n ≤ Ls.length + 67 * cu ∧ (∀ k, c k ≤ i) ∧ (∀ b, L b → b < w.heap.size ∧ ¬ Blk A B mr b ∧ b ≠ sb)
/-- The disk alone, off or on, and what it tells. -/
def LoAt (W w : World) (d mb : Nat) (L : Nat → Prop) (P : (ByteArray → Option Reg) → Prop) (off : Bool) : Prop := ∃ n y B rs1, n < 1048570 ∧ Cd W w d mb n y B ∧ (∃ V, y = ⟨off, false, 0, 0, y.wn, V⟩) ∧ (0 ≤ y.wn ∧ y.wn ≤ 999999700) ∧ Tells y.V dirK (recsL rs1) ∧ AllOk rs1 ∧ rs1.length ≤ 4194304 ∧ P (regs rs1) ∧ (∀ b, L b → b < w.heap.size ∧ ¬ B b) ∧ Tab W
theorem KeAt.grown {W w w' : World} {d mb sb : Nat} {L : Nat → Prop} {i : Nat} {c : Nat → Nat} (h : KeAt W w d mb sb L i c) (hg : w.grownBy w' none) : KeAt W w' d mb sb L i c := by
  obtain ⟨n, x, p, mr, m, K, Ls, A, B, rs, cu, s, h1, h2, h3, h4, h5, h6, h7, h8, h9, h10, h11⟩ := h
  exact ⟨n, x, p, mr, m, K, Ls, A, B, rs, cu, s, h1.grown hg, h2, h3, h4, h5, h6, h7, h8, h9, h10, fun b hb => ⟨Nat.lt_of_lt_of_le (h11 b hb).1 hg.size, (h11 b hb).2⟩⟩
theorem KeAt.from_ {W w : World} {d mb sb : Nat} {L : Nat → Prop} {i : Nat} {c : Nat → Nat} (h : KeAt W w d mb sb L i c) : W.grownBy w none := by
  obtain ⟨n, x, p, mr, m, K, Ls, A, B, rs, cu, s, h1, _⟩ := h
  exact h1.se.from_
theorem Cd.grown {W w w' : World} {d mb n : Nat} {y : DSt} {B : Nat → Prop} (h : Cd W w d mb n y B) (hg : w.grownBy w' none) : Cd W w' d mb n y B :=
  ⟨DV.kept h.disk hg, h.from_.trans hg, h.low, fun k hk => Nat.lt_of_lt_of_le (h.ltB k hk) hg.size⟩
theorem LoAt.grown {W w w' : World} {d mb : Nat} {L : Nat → Prop} {P : (ByteArray → Option Reg) → Prop} {off : Bool} (h : LoAt W w d mb L P off) (hg : w.grownBy w' none) : LoAt W w' d mb L P off := by
  obtain ⟨n, y, B, rs1, h1, h2, h3, h4, h5, h6, h7, h8, h9, h10⟩ := h
  exact ⟨n, y, B, rs1, h1, h2.grown hg, h3, h4, h5, h6, h7, h8, fun b hb => ⟨Nat.lt_of_lt_of_le (h9 b hb).1 hg.size, (h9 b hb).2⟩, h10⟩
theorem LoAt.from_ {W w : World} {d mb : Nat} {L : Nat → Prop} {P : (ByteArray → Option Reg) → Prop} {off : Bool} (h : LoAt W w d mb L P off) : W.grownBy w none := by
  obtain ⟨n, y, B, rs1, h1, h2, _⟩ := h
  exact h2.from_
theorem ke_set {W w : World} {d mb sb : Nat} {L : Nat → Prop} {i : Nat} {c : Nat → Nat} (h : KeAt W w d mb sb L i c) (hi : i < 1048576) (k : Nat) (hk : k < 3) (a : Option Addr) (C : Nat) (hr : Rd w a [(k : Int), (c k : Int) % 256]) :
    Calls Tryz.prog 19 #[.pointer (some ⟨sb, 0, none⟩), .string (nmK k), .slice a 2 C, .int .u64 (c k : Int)] w fun e w' => (e = .returned (.tuple #[.int .u64 ((c k : Int) + 1), .int .i64 0]) ∧ KeAt W w' d mb sb L (i + 1) (updC c k) ∧ Stays L w w') ∨ (e = .returned (.tuple #[.int .u64 0, .int .i64 60]) ∧ LoAt W w' d mb L (fun G => G = keepF c ∨ G = keepF (updC c k)) true ∧ Stays L w w') := by
  obtain ⟨n, x, p, mr, m, K, Ls, A, B, rs, cu, s, h1, h2, h3, h4, h5, h6, h7, h8, h9, h10, h11⟩ := h
  have hck := h10 k
  have hv := keepF_ver c hk
  have hset := keepF_set c hk
  have hrl := recK_len k (c k + 1) (by omega) ((c k : Int) % 256)
  have hroom : CutRoom (keepF (updC c k)) := keep_room _ (fun j => by unfold updC; have := h10 j; split <;> omega)
  obtain ⟨s', p1, p2, p3⟩ := pot_add K Ls (recL (nmK k) (c k + 1, strOfNums [(k : Int), (c k : Int) % 256])) i cu s (frameK_len _ hrl) h6 h7 h8
  have hln := addL_len K Ls (recL (nmK k) (c k + 1, strOfNums [(k : Int), (c k : Int) % 256]))
  have hfree : ∀ b, L b → ∀ X : Nat → Prop, (∀ j, X j → j = sb ∨ Blk A B mr j) → ¬ X b := fun b hb X hX hx => by
    rcases hX b hx with e | e
    · exact (h11 b hb).2.2 e
    · exact (h11 b hb).2.1 e
  have := k_setB h1 (nmK k) a [(k : Int), (c k : Int) % 256] 2 C (nmK_kB k) hr rfl (by rw [hv]; omega) (by rw [hv]; omega) (by omega) (by omega) (by omega) h3 (by omega) (by omega) (by rw [hv, hset]; exact hroom)
  rw [hv, hset] at this
  refine this.mono ?_
  rintro e w' (⟨rfl, n', x', K', Ls', A', B', rs', k1, k2, k3, k4, k5⟩ | ⟨rfl, n', y, B', rs1, k1, k2, k3, k4, k5, k6, k7, k8, k9, k10⟩)
  · refine .inl ⟨rfl, ?_, fun b hb => k5.1.block b (h11 b hb).1 (h11 b hb).2.1⟩
    have hL : ∀ b, L b → b < w'.heap.size ∧ ¬ Blk A' B' mr b ∧ b ≠ sb := fun b hb => ⟨Nat.lt_of_lt_of_le (h11 b hb).1 k5.1.size, fun hx => (h11 b hb).2.1 (k5.2 b (h11 b hb).1 hx), (h11 b hb).2.2⟩
    have hcc : ∀ j, updC c k j ≤ i + 1 := fun j => by unfold updC; have := h10 j; split <;> omega
    rcases k3 with ⟨e1, e2, e3, e4⟩ | ⟨e1, e2, e3, e4⟩
    · subst e1 e2
      exact ⟨n', x', p, mr, m + 1, _, _, A', B', rs', cu, s', k2, by omega, e4, by omega, by omega, p1, p2, p3, by omega, hcc, hL⟩
    · subst e3
      refine ⟨n', x', p, mr, m + 1, K', [], A', B', rs', cu + 1, s', k2, by omega, by simp, by omega, by omega, by omega, ?_, ?_, ?_, hcc, hL⟩
      · show 4096 * s' + 0 ≤ _
        omega
      · show 64 * (cu + 1) + (0 - 1) ≤ s'
        omega
      · show n' ≤ 0 + 67 * (cu + 1)
        omega
  · refine .inr ⟨rfl, ⟨n', y, B', rs1, by omega, k2, k3, k4, k5, k6, k7, k8, fun b hb => ⟨Nat.lt_of_lt_of_le (h11 b hb).1 k9.size, fun hx => (h11 b hb).2.1 (k10 b (h11 b hb).1 hx)⟩, h1.se.tab⟩, fun b hb => k9.block b (h11 b hb).1 (fun hx => hfree b hb _ (fun j hj => hj) hx)⟩
theorem ke_off {W w : World} {d mb sb : Nat} {L : Nat → Prop} {i : Nat} {c : Nat → Nat} (h : KeAt W w d mb sb L i c) (hi : i < 1048576) (keep : Int) (hk : -9223372036854775808 ≤ keep ∧ keep ≤ 9223372036854775807) :
    Calls Tryz.prog 11 #[.pointer (some ⟨d, 0, none⟩), .int .i64 keep] w fun e w' => e = .returned (.tuple #[]) ∧ LoAt W w' d mb L (fun G => G = keepF c) true ∧ Stays L w w' := by
  obtain ⟨n, x, p, mr, m, K, Ls, A, B, rs, cu, s, h1, h2, h3, h4, h5, h6, h7, h8, h9, h10, h11⟩ := h
  refine (x_off W.heap.size d mb n x B keep w h1.se.at_.disk hk).mono ?_
  rintro e w' ⟨rfl, hd', hs'⟩
  have hw0 := h1.se.ok.1.1
  have ex : x.power keep = ⟨true, false, 0, 0, x.wn, lostV keep x.V⟩ := by
    unfold DSt.power
    rw [if_neg (by rw [h1.se.on]; simp)]
    rfl
  rw [ex] at hd'
  obtain ⟨R, r1, r2, r3⟩ := power_logK keep h1.se.log h1.se.sy h1.good
  rw [List.take_of_length_le r1] at r3
  have hT := tells_power r3 (by omega)
  rw [h1.recs] at hT
  have hfree : ∀ b, L b → ¬ B b := fun b hb hx => (h11 b hb).2.1 (.inr (.inl hx))
  refine ⟨rfl, ⟨n, _, fun k => B k ∧ k < w'.heap.size, rs, by omega, ⟨DS.bound hd', ?_, fun k hk => h1.se.low k (.inr hk.1), fun k hk => hk.2⟩, ⟨_, rfl⟩, ⟨hw0, by dsimp only; omega⟩, hT, h1.ok, by omega, h1.says, fun b hb => ⟨Nat.lt_of_lt_of_le (h11 b hb).1 hs'.1.size, fun hx => hfree b hb hx.1⟩, h1.se.tab⟩, fun b hb => hs'.1.block b (h11 b hb).1 (hfree b hb)⟩
  exact ⟨hs'.1.os.trans h1.se.from_.os, hs'.1.tape.trans h1.se.from_.tape, hs'.1.output.trans h1.se.from_.output, Nat.le_trans h1.se.from_.size hs'.1.size, fun k hk1 _ => (hs'.1.block k (Nat.lt_of_lt_of_le hk1 h1.se.from_.size) (fun hx => by have := h1.se.low k (.inr hx); omega)).trans (h1.se.from_.block k hk1 (by simp))⟩
/-- A call of the disk that writes nothing of its files. -/
theorem lo_step {W w w' : World} {d mb n : Nat} {L : Nat → Prop} {P : (ByteArray → Option Reg) → Prop} {off : Bool} {y : DSt} {B : Nat → Prop} {rs1 : List (ByteArray × Reg)} (V : Cont) (hd : DS w' W.heap.size d mb n ⟨off, false, 0, 0, y.wn, V⟩ B) (hs : Step w w' B B) (hc : Cd W w d mb n y B) (hn : n < 1048570) (hw : 0 ≤ y.wn ∧ y.wn ≤ 999999700) (hT : Tells V dirK (recsL rs1)) (h6 : AllOk rs1) (h7 : rs1.length ≤ 4194304) (h8 : P (regs rs1)) (h9 : ∀ b, L b → b < w.heap.size ∧ ¬ B b) (h10 : Tab W) : LoAt W w' d mb L P off ∧ Stays L w w' := by
  refine ⟨⟨n, _, fun k => B k ∧ k < w'.heap.size, rs1, hn, ⟨DS.bound hd, ?_, fun k hk => hc.low k hk.1, fun k hk => hk.2⟩, ⟨_, rfl⟩, hw, hT, h6, h7, h8, fun b hb => ⟨Nat.lt_of_lt_of_le (h9 b hb).1 hs.1.size, fun hx => (h9 b hb).2 hx.1⟩, h10⟩, fun b hb => hs.1.block b (h9 b hb).1 (h9 b hb).2⟩
  exact ⟨hs.1.os.trans hc.from_.os, hs.1.tape.trans hc.from_.tape, hs.1.output.trans hc.from_.output, Nat.le_trans hc.from_.size hs.1.size, fun k hk1 _ => (hs.1.block k (Nat.lt_of_lt_of_le hk1 hc.from_.size) (fun hx => by have := hc.low k hx; omega)).trans (hc.from_.block k hk1 (by simp))⟩
theorem lo_off {W w : World} {d mb : Nat} {L : Nat → Prop} {P : (ByteArray → Option Reg) → Prop} (h : LoAt W w d mb L P true) (keep : Int) (hk : -9223372036854775808 ≤ keep ∧ keep ≤ 9223372036854775807) :
    Calls Tryz.prog 11 #[.pointer (some ⟨d, 0, none⟩), .int .i64 keep] w fun e w' => e = .returned (.tuple #[]) ∧ LoAt W w' d mb L P true ∧ Stays L w w' := by
  obtain ⟨n, y, B, rs1, h1, h2, ⟨V, ey⟩, h4, h5, h6, h7, h8, h9, h10⟩ := h
  refine (x_off W.heap.size d mb n y B keep w h2.disk hk).mono ?_
  rintro e w' ⟨rfl, hd', hs'⟩
  have ex : y.power keep = ⟨true, false, 0, 0, y.wn, V⟩ := by
    rw [ey]
    rfl
  have eV : y.V = V := by rw [ey]
  rw [ex] at hd'
  rw [eV] at h5
  exact ⟨rfl, lo_step V hd' hs' h2 h1 h4 h5 h6 h7 h8 h9 h10⟩
theorem lo_on {W w : World} {d mb : Nat} {L : Nat → Prop} {P : (ByteArray → Option Reg) → Prop} (h : LoAt W w d mb L P true) :
    Calls Tryz.prog 13 #[.pointer (some ⟨d, 0, none⟩)] w fun e w' => e = .returned (.tuple #[]) ∧ LoAt W w' d mb L P false ∧ Stays L w w' := by
  obtain ⟨n, y, B, rs1, h1, h2, ⟨V, ey⟩, h4, h5, h6, h7, h8, h9, h10⟩ := h
  refine (x_on W.heap.size d mb n y B w h2.disk).mono ?_
  rintro e w' ⟨rfl, hd', hs'⟩
  have ex : { y with off := false } = (⟨false, false, 0, 0, y.wn, V⟩ : DSt) := by
    rw [ey]
  have eV : y.V = V := by rw [ey]
  rw [ex] at hd'
  rw [eV] at h5
  exact ⟨rfl, lo_step V hd' hs' h2 h1 h4 h5 h6 h7 h8 h9 h10⟩
theorem lo_open {W w : World} {d mb : Nat} {L : Nat → Prop} {P : (ByteArray → Option Reg) → Prop} (h : LoAt W w d mb L P false) :
    Calls Tryz.prog 8 #[.pointer (some ⟨d, 0, none⟩)] w fun e w' => ∃ sb mr m G, e = .returned (.tuple #[.pointer (some ⟨sb, 0, none⟩), .int .i64 0]) ∧ P G ∧ KvR W w' d mb sb mr m G ∧ W.grownBy w' none ∧ Stays L w w' := by
  obtain ⟨n, y, B, rs1, h1, h2, ⟨V, ey⟩, h4, h5, h6, h7, h8, h9, h10⟩ := h
  have hc : y.Calm := by
    refine ⟨by rw [ey], by rw [ey], ⟨h4.1, by omega⟩, fun hs => ?_, ?_⟩
    · rw [ey] at hs
      cases hs
    · rw [ey]
      show -9223372036854775808 ≤ (0 : Int) ∧ (0 : Int) ≤ 9223372036854775807
      decide
  refine (k_openG rs1 h2.disk h5 hc h2.from_ h2.low h2.ltB h10 (by omega) (by omega) h6 h7).mono ?_
  rintro e w' ⟨sb, mr, rfl, k1, k2⟩
  refine ⟨sb, mr, _, _, rfl, h8, k1, ?_, fun b hb => k2.block b (h9 b hb).1 (h9 b hb).2⟩
  exact ⟨k2.os.trans h2.from_.os, k2.tape.trans h2.from_.tape, k2.output.trans h2.from_.output, Nat.le_trans h2.from_.size k2.size, fun k hk1 _ => (k2.block k (Nat.lt_of_lt_of_le hk1 h2.from_.size) (fun hx => by have := h2.low k hx; omega)).trans (h2.from_.block k hk1 (by simp))⟩
end Go.Proofs.YtgpgkpciajajcaaGreatDoor

/- KvKeeps: the store armed; the law's own rows. -/
namespace Go.Proofs.YtgpgkpciajajcaaGreatDoor
open Go.RowKit Go.Maps Go.Sort
set_option linter.unusedVariables false
set_option maxRecDepth 20000

def K0 (W w : World) (d mb sb : Nat) : Prop := ∃ p mr A B, KvAt W w d mb 0 x0 sb p mr 0 none [] A B (fun _ => none) []
theorem K0.grown {W w w' : World} {d mb sb : Nat} (h : K0 W w d mb sb) (hg : w.grownBy w' none) : K0 W w' d mb sb := by
  obtain ⟨p, mr, A, B, h1⟩ := h
  exact ⟨p, mr, A, B, h1.grown hg⟩
theorem ke_open0 {W w : World} {d mb : Nat} {B : Nat → Prop} (h : De W w d mb 0 x0 dirK none [] B) : Calls Tryz.prog 8 #[.pointer (some ⟨d, 0, none⟩)] w fun e w' => ∃ sb, e = .returned (.tuple #[.pointer (some ⟨sb, 0, none⟩), .int .i64 0]) ∧ K0 W w' d mb sb := by
  refine (k_open [] h rfl (fun q hq => by cases hq) (by omega) (by simp) (by simp)).mono ?_
  rintro e w' ⟨sb, p, mr, A, rfl, h1, h2, _⟩
  exact ⟨sb, rfl, p, mr, A, B, h1⟩
theorem ke_arm {W w : World} {d mb sb : Nat} (h : K0 W w d mb sb) (ah kp : Int) (ha : 0 ≤ ah ∧ ah ≤ 9223372036854775807) (hk : -9223372036854775808 ≤ kp ∧ kp ≤ 9223372036854775807) :
    Calls Tryz.prog 17 #[.pointer (some ⟨d, 0, none⟩), .int .i64 ah, .int .i64 kp] w fun e w' => e = .returned (.tuple #[]) ∧ KeAt W w' d mb sb (fun _ => False) 0 (fun _ => 0) := by
  obtain ⟨p, mr, A, B, h1⟩ := h
  refine (x_arm W.heap.size d mb 0 x0 B ah kp w h1.se.at_.disk).mono ?_
  rintro e w' ⟨rfl, hd', hs'⟩
  obtain ⟨B'', hL, hS⟩ := h1.se.at_.write hd' hs'
  have ex : x0.arm ah kp = ⟨false, true, ah, kp, 0, fun _ => none⟩ := by
    unfold DSt.arm
    rw [if_neg (by omega)]
    rfl
  rw [ex] at hL
  have hsl := h1.row.lt
  have hml := h1.map.lt
  refine ⟨rfl, 0, _, p, mr, 0, none, [], A, B'', [], 0, 0, ⟨⟨hL, log0 dirK, ⟨fun q hq => (by cases hq), .inl ⟨rfl, rfl⟩⟩, rfl, ⟨⟨Int.le_refl _, by show (0 : Int) ≤ 1000000000; decide⟩, fun _ => ha, hk⟩, hS.from_ h1.se.from_ h1.se.low, hS.low h1.se.from_ h1.se.low, h1.se.tab⟩, fun q hq => (by cases hq), h1.row.stay (hS.kept.block sb hsl h1.sb_.1), ?_, ?_, rfl, fun q hq => (by cases hq), ⟨fun hx => h1.sb_.1 (hx.imp id (fun hb => hS.oldB sb hsl hb)), h1.sb_.2⟩, ⟨fun hx => h1.mr_.1 (hx.imp id (fun hb => hS.oldB mr hml hb)), h1.mr_.2⟩⟩, by show (0 : Int) ≤ 100 * ((0 : Nat) : Int); decide, by simp, by simp, by omega, rfl, by show 4096 * 0 + 0 ≤ 20 * 0; omega, by simp, by simp, fun k => Nat.le_refl _, fun b hb => hb.elim⟩
  · rw [keepF_zero]
    exact h1.map.stay (hS.kept.block mr hml h1.mr_.1)
  · rw [keepF_zero]
    rfl
theorem KvB.others {W w w' : World} {d mb n : Nat} {x : DSt} {sb p mr m : Nat} {K : Kp} {Ls : Sg} {A B X : Nat → Prop} {F : ByteArray → Option Reg} {rs : List (ByteArray × Reg)} (h : KvB W w d mb n x sb p mr m K Ls A B F rs) (hk : Kept w w' X) (hX : ∀ k, X k → ¬ Blk A B mr k ∧ k ≠ sb) (hW : ∀ k, X k → W.heap.size ≤ k) : KvB W w' d mb n x sb p mr m K Ls A B F rs :=
  ⟨h.se.others hk (fun k hk hx => (hX k hx).1 (hk.elim .inl (fun hb => .inr (.inl hb)))) hW, h.good, h.row.stay (hk.block sb h.row.lt (fun hx => (hX sb hx).2 rfl)), h.map.stay (hk.block mr h.map.lt (fun hx => (hX mr hx).1 (.inr (.inr rfl)))), h.says, h.recs, h.ok, h.sb_, h.mr_⟩
theorem KeAt.others {W w w' : World} {d mb sb : Nat} {L : Nat → Prop} {i : Nat} {c : Nat → Nat} (h : KeAt W w d mb sb L i c) (hk : Kept w w' L) (hW : ∀ k, L k → W.heap.size ≤ k) : KeAt W w' d mb sb L i c := by
  obtain ⟨n, x, p, mr, m, K, Ls, A, B, rs, cu, s, h1, h2, h3, h4, h5, h6, h7, h8, h9, h10, h11⟩ := h
  exact ⟨n, x, p, mr, m, K, Ls, A, B, rs, cu, s, h1.others hk (fun k hx => (h11 k hx).2) hW, h2, h3, h4, h5, h6, h7, h8, h9, h10, fun b hb => ⟨Nat.lt_of_lt_of_le (h11 b hb).1 hk.size, (h11 b hb).2⟩⟩
/-- Rows that are new are the law's own. -/
theorem KeAt.own {W w w' : World} {d mb sb : Nat} {i : Nat} {c : Nat → Nat} (h : KeAt W w d mb sb (fun _ => False) i c) (hg : w.grownBy w' none) (L : Nat → Prop) (hL : ∀ b, L b → w.heap.size ≤ b ∧ b < w'.heap.size) : KeAt W w' d mb sb L i c := by
  have h' := h.grown hg
  obtain ⟨n, x, p, mr, m, K, Ls, A, B, rs, cu, s, h1, h2, h3, h4, h5, h6, h7, h8, h9, h10, h11⟩ := h
  refine ⟨n, x, p, mr, m, K, Ls, A, B, rs, cu, s, h1.grown hg, h2, h3, h4, h5, h6, h7, h8, h9, h10, fun b hb => ⟨(hL b hb).2, fun hx => ?_, fun e => ?_⟩⟩
  · have h0 := (hL b hb).1
    rcases hx with ha | hb' | e
    · have := h1.se.at_.ltA b ha
      omega
    · have := h1.se.at_.ltB b hb'
      omega
    · have := h1.map.lt
      omega
  · have h0 := (hL b hb).1
    have := h1.row.lt
    omega
/-- The law's rows: the names, and how often each was set. -/
structure Rw2 (w : World) (nb ob : Nat) (c : Nat → Nat) : Prop where
  nam : w.heap[nb]? = some (.cells #[.string ⟨#[97]⟩, .string ⟨#[98]⟩, .string ⟨#[99]⟩] 9 (0, 0))
  now : w.rowIs ob 48 3 (fun k => .int .u64 (c k : Int))
def LR (nb ob : Nat) : Nat → Prop := fun b => b = nb ∨ b = ob
theorem Rw2.stays {w w' : World} {nb ob : Nat} {c : Nat → Nat} (h : Rw2 w nb ob c) (hs : Stays (LR nb ob) w w') : Rw2 w' nb ob c :=
  ⟨(hs nb (.inl rfl)).trans h.nam, h.now.of_block (hs ob (.inr rfl))⟩
theorem Rw2.grown {w w' : World} {nb ob : Nat} {c : Nat → Nat} (h : Rw2 w nb ob c) (hg : w.grownBy w' none) : Rw2 w' nb ob c :=
  ⟨(hg.block nb (Array.getElem?_eq_some_iff.1 h.nam).1 (by simp)).trans h.nam, h.now.of_block (hg.block ob h.now.lt (by simp))⟩
theorem Rw2.name {w : World} {nb ob : Nat} {c : Nat → Nat} (h : Rw2 w nb ob c) {k : Nat} (hk : k < 3) : w.cell? ⟨nb, k, none⟩ = some (.string (nmK k)) := by
  rw [cell_of_row w nb k _ _ _ h.nam]
  obtain rfl | rfl | rfl : k = 0 ∨ k = 1 ∨ k = 2 := by omega
  all_goals rfl
theorem Rw2.cnt {w : World} {nb ob : Nat} {c : Nat → Nat} (h : Rw2 w nb ob c) {k : Nat} (hk : k < 3) : w.cell? ⟨ob, k, none⟩ = some (.int .u64 (c k : Int)) := h.now.cell (i := k) hk
theorem Rw2.new (w : World) : Rw2 ((w.alloc (.cells #[.string ⟨#[97]⟩, .string ⟨#[98]⟩, .string ⟨#[99]⟩] 9)).alloc (.cells #[.int .u64 0, .int .u64 0, .int .u64 0] 48)) w.heap.size (w.heap.size + 1) (fun _ => 0) := by
  have hs : (w.alloc (.cells #[.string ⟨#[97]⟩, .string ⟨#[98]⟩, .string ⟨#[99]⟩] 9)).heap.size = w.heap.size + 1 := Array.size_push _
  have hg := World.grownBy_alloc (w.alloc (.cells #[.string ⟨#[97]⟩, .string ⟨#[98]⟩, .string ⟨#[99]⟩] 9)) (.cells #[.int .u64 0, .int .u64 0, .int .u64 0] 48) none
  have h1 := heap_alloc_new w (.cells #[.string ⟨#[97]⟩, .string ⟨#[98]⟩, .string ⟨#[99]⟩] 9)
  refine ⟨(hg.block w.heap.size (by omega) (by simp)).trans h1, ?_⟩
  have := World.rowIs_alloc (w.alloc (.cells #[.string ⟨#[97]⟩, .string ⟨#[98]⟩, .string ⟨#[99]⟩] 9)) #[.int .u64 0, .int .u64 0, .int .u64 0] 48 (fun _ => .int .u64 ((0 : Nat) : Int)) (three rfl rfl rfl)
  rw [hs] at this
  exact this
theorem Rw2.set {w : World} {nb ob : Nat} {c : Nat → Nat} (h : Rw2 w nb ob c) (hne : nb ≠ ob) {k : Nat} (hk : k < 3) : Rw2 (w.setCell ⟨ob, k, none⟩ (.int .u64 ((c k : Int) + 1))) nb ob (updC c k) := by
  have hg : w.grownBy (w.setCell ⟨ob, k, none⟩ (.int .u64 ((c k : Int) + 1))) (some ob) := gb_set rfl
  refine ⟨(hg.block nb (Array.getElem?_eq_some_iff.1 h.nam).1 (fun e => hne (Option.some.inj e))).trans h.nam, (h.now.set k _).congr (fun j hj => ?_)⟩
  unfold updC
  by_cases e : j = k
  · subst e
    simp
  · simp [e]
theorem kept_ob {w : World} {nb ob k : Nat} {v : Value} : Kept w (w.setCell ⟨ob, k, none⟩ v) (LR nb ob) := Kept.of (gb_set rfl) (fun j hj => by cases hj; exact .inr rfl)
/-- How the law's loop stands. -/
def KeepI (W w : World) (d mb sb nb ob i : Nat) (bad : Int) (c : Nat → Nat) : Prop := Rw2 w nb ob c ∧ (∀ k, c k ≤ i) ∧ ((bad = -1 ∧ KeAt W w d mb sb (LR nb ob) i c) ∨ (∃ k : Nat, k < 3 ∧ bad = (k : Int) ∧ LoAt W w d mb (LR nb ob) (fun G => G = keepF c ∨ G = keepF (updC c k)) true))
theorem KeepI.from_ {W w : World} {d mb sb nb ob i : Nat} {bad : Int} {c : Nat → Nat} (h : KeepI W w d mb sb nb ob i bad c) : W.grownBy w none := by
  obtain ⟨_, _, ⟨_, h⟩ | ⟨k, _, _, h⟩⟩ := h
  · exact h.from_
  · exact h.from_
/-- What the registers may be at the end. -/
def EndP (c : Nat → Nat) (bad : Int) (G : ByteArray → Option Reg) : Prop := G = keepF c ∨ ∃ k : Nat, k < 3 ∧ bad = (k : Int) ∧ G = keepF (updC c k)
theorem keepI_off {W w : World} {d mb sb nb ob i : Nat} {bad : Int} {c : Nat → Nat} (h : KeepI W w d mb sb nb ob i bad c) (hi : i < 1048576) (keep : Int) (hk : -9223372036854775808 ≤ keep ∧ keep ≤ 9223372036854775807) :
    Calls Tryz.prog 11 #[.pointer (some ⟨d, 0, none⟩), .int .i64 keep] w fun e w' => e = .returned (.tuple #[]) ∧ LoAt W w' d mb (LR nb ob) (EndP c bad) true ∧ Rw2 w' nb ob c := by
  obtain ⟨hr, hc, ⟨hb, h⟩ | ⟨k, hk3, hb, h⟩⟩ := h
  · refine (ke_off h hi keep hk).mono ?_
    rintro e w' ⟨rfl, ⟨n, y, B, rs1, h1, h2, h3, h4, h5, h6, h7, h8, h9⟩, hs⟩
    exact ⟨rfl, ⟨n, y, B, rs1, h1, h2, h3, h4, h5, h6, h7, .inl h8, h9⟩, hr.stays hs⟩
  · refine (lo_off h keep hk).mono ?_
    rintro e w' ⟨rfl, ⟨n, y, B, rs1, h1, h2, h3, h4, h5, h6, h7, h8, h9⟩, hs⟩
    exact ⟨rfl, ⟨n, y, B, rs1, h1, h2, h3, h4, h5, h6, h7, h8.elim .inl (fun e => .inr ⟨k, hk3, hb, e⟩), h9⟩, hr.stays hs⟩
theorem endP_get {c : Nat → Nat} {bad : Int} {G : ByteArray → Option Reg} (h : EndP c bad G) {j : Nat} (hj : j < 3) : ∃ V, G (nmK j) = regK j V ∧ (V = c j ∨ (bad = (j : Int) ∧ V = c j + 1)) := by
  rcases h with rfl | ⟨k, hk, hb, rfl⟩
  · exact ⟨c j, keepF_at c hj, .inl rfl⟩
  · by_cases e : j = k
    · subst e
      exact ⟨c j + 1, by rw [keepF_at _ hj]; unfold updC; rw [if_pos rfl], .inr ⟨hb, rfl⟩⟩
    · exact ⟨c j, by rw [keepF_at _ hj]; unfold updC; rw [if_neg e], .inl rfl⟩
theorem end_get {W w : World} {d mb sb mr m : Nat} {G : ByteArray → Option Reg} (h : KvR W w d mb sb mr m G) {j V : Nat} (hj : j < 3) (hG : G (nmK j) = regK j V) :
    Calls Tryz.prog 20 #[.pointer (some ⟨sb, 0, none⟩), .string (nmK j)] w fun e w' => ∃ a C, e = .returned (.tuple #[.slice (some a) (if V = 0 then 0 else 2) C, .int .u64 (V : Int), .int .i64 0]) ∧ (V ≠ 0 → Rd w' (some a) [(j : Int), ((V - 1 : Nat) : Int) % 256]) ∧ w.grownBy w' none := by
  have := h.get (nmK j) (nmK_kB j)
  rw [hG] at this
  refine this.mono ?_
  rintro e w' ⟨a, C, rfl, k1, k2⟩
  refine ⟨a, C, ?_, fun hV => ?_, k2⟩
  · unfold regK
    by_cases hV : V = 0
    · subst hV
      rfl
    · rw [if_neg hV, if_neg hV]
      show Ending.returned (.tuple #[.slice (some a) (strOfNums [(j : Int), ((V - 1 : Nat) : Int) % 256]).size C, .int .u64 (V : Int), .int .i64 0]) = _
      rw [str_size]
      rfl
  · unfold regK at k1
    rw [if_neg hV] at k1
    have k1' : Rd w' (some a) (sInts (strOfNums [(j : Int), ((V - 1 : Nat) : Int) % 256])) := k1
    rw [ints_back (fun z hz => by
      simp at hz
      rcases hz with rfl | rfl <;> omega)] at k1'
    exact k1'
end Go.Proofs.YtgpgkpciajajcaaGreatDoor

