/- Several texts in one: Rwith, Rcheck, Renc, Cback, Lenc. -/
import Derived.Test.YtpabbmiibehfjaaGreatDoorGb
import Derived.Test.YtpabbmiibehfjaaGreatDoorGc
/- The document's own With. -/
namespace Go.Proofs.YtpabbmiibehfjaaGreatDoor
set_option maxRecDepth 20000
open Go.RowKit
set_option linter.unusedVariables false

theorem sown_form {e : TypeId} {w : World} {base n : Nat} {v : Value} {ls : List Lab} (h : SOwn labE e w base v n ls) : ∃ a c, v = .slice a n c ∧ (a = none → c = 0) ∧ n ≤ c ∧ c ≤ maxLen ∧ (∀ x, a = some x → base ≤ x.block ∧ x.off = 0 ∧ x.spot = none) := by
  rcases h.2 with ⟨h', h0⟩ | ⟨g, cap, cur, h', h1, h2, h3, h4, _⟩
  · subst h0
    exact ⟨none, 0, h', fun _ => rfl, Nat.le_refl _, Nat.zero_le _, by simp⟩
  · exact ⟨_, cap, h', by simp, h3, h4, fun x hx => by cases hx; exact ⟨h1, rfl, rfl⟩⟩
theorem str_none (s : ByteArray) : s.toList.isEmpty = decide (s = ⟨#[]⟩) := by
  rw [← str_eq, show ByteArray.toList ⟨#[]⟩ = [] by rw [ByteArray.toList_eq]]
  cases s.toList <;> rfl
theorem elem28 : Tryz.prog.elem 28 = 62 := by simp [Program.elem, Tryz.underlying28]
theorem sz62 (w : World) : (sizeOf 62).run Tryz.prog w = .ok 2 w := by
  obtain ⟨i0, hi, _, hz1, _⟩ := info_parts info62
  simp [sizeOf, typeInfo, hi, hz1]
theorem lhead (a : Option Addr) (ls : List Lab) (n c k : Nat) (hl : ls.length = n) (hk : k ≤ n) (hc : n ≤ c) (hn : a = none → c = 0) (ho : ∀ x, a = some x → x.spot = none) :
    ∃ v, (∀ w, (Instr.slice 28 (.slice a n c) none (some (.int .i64 (k : Int))) none).run Tryz.prog w = .ok (.slice v k c) w) ∧ (∀ w, SRd labE w a ls → SRd labE w v (ls.take k)) ∧ (v = none → c = 0) := by
  refine ⟨if c = 0 then a else a.map (·.add (0 * 2)), fun w => ?_, fun w h => ?_, fun h => ?_⟩
  · rw [run_slice_h w 28 a n c (by rw [elem28]; exact Tryz.underlying28) .i64 (k : Int) (by omega) (by omega), elem28, sz62]
    simp [Result.andThen, sliced]
  · by_cases h0 : c = 0
    · obtain rfl : k = 0 := by omega
      simp only [List.take_zero]
      exact SRd.nil _ _
    · rw [if_neg h0]
      rcases h with rfl | ⟨b, off, e, h⟩
      · simp only [List.take_nil]; exact SRd.nil _ _
      · refine .inr ⟨b, off, by rw [e]; rfl, fun j v hj => h j v ?_⟩
        rw [labE.flat_take, List.getElem?_take] at hj
        split at hj
        · exact hj
        · simp at hj
  · split at h
    · assumption
    · cases a with
      | none => exact hn rfl
      | some x => simp at h
theorem ltail (a : Option Addr) (ls : List Lab) (n c k : Nat) (hl : ls.length = n) (hk : k ≤ n) (hc : n ≤ c) (hn : a = none → c = 0) :
    ∃ v, (∀ w, (Instr.slice 28 (.slice a n c) (some (.int .i64 (k : Int))) none none).run Tryz.prog w = .ok (.slice v (n - k) (c - k)) w) ∧ (∀ w, SRd labE w a ls → SRd labE w v (ls.drop k)) ∧ (v = none → c - k = 0) := by
  refine ⟨if c = k then a else a.map (·.add (k * 2)), fun w => ?_, fun w h => ?_, fun h => ?_⟩
  · rw [run_slice_l w 28 a n c (by rw [elem28]; exact Tryz.underlying28) .i64 (k : Int) (by omega) (by omega), elem28, sz62]
    simp [Result.andThen, sliced]
  · by_cases h0 : c = k
    · rw [List.drop_eq_nil_of_le (by omega)]
      exact SRd.nil _ _
    · rw [if_neg h0]
      rcases h with rfl | ⟨b, off, e, h⟩
      · simp only [List.drop_nil]; exact SRd.nil _ _
      · refine .inr ⟨b, off + k * 2, ?_, fun j v hj => ?_⟩
        · rw [e]
          by_cases h1 : k = 0
          · subst h1; rfl
          · have : ¬ k * 2 = 0 := by omega
            simp [Addr.add, this]
        · rw [Nat.add_assoc]
          refine h _ v ?_
          have e1 : labE.flat ls = labE.flat (ls.take k) ++ labE.flat (ls.drop k) := by rw [← labE.flat_app, List.take_append_drop]
          have e2 : (labE.flat (ls.take k)).length = k * 2 := by
            rw [labE.flat_len, List.length_take]
            show min k ls.length * 2 = k * 2
            rw [Nat.min_eq_left (by omega)]
          rw [e1, List.getElem?_append_right (by omega), e2, show k * 2 + j - k * 2 = j by omega]
          exact hj
  · split at h
    · omega
    · cases a with
      | none => have := hn rfl; omega
      | some x => simp at h

def leB (a n : ByteArray) : Bool := Op.bytesLess a.toList n.toList || a.toList == n.toList
def withR (ls : List Lab) (name value : ByteArray) : List Lab :=
  if value = ⟨#[]⟩ then someR ls [name] false
  else (someR ls [name] false).takeWhile (fun p => leB p.1 name) ++ [(name, value)] ++ (someR ls [name] false).dropWhile (fun p => leB p.1 name)
def WhileAt (rest : List Lab) (name : ByteArray) (k : Nat) : Prop := rest.takeWhile (fun p => leB p.1 name) = rest.take k ++ (rest.drop k).takeWhile (fun p => leB p.1 name) ∧ rest.dropWhile (fun p => leB p.1 name) = (rest.drop k).dropWhile (fun p => leB p.1 name)
theorem WhileAt.next {rest : List Lab} {name : ByteArray} {k : Nat} {p : Lab} (h : WhileAt rest name k) (hp : rest[k]? = some p) (hb : leB p.1 name = true) : WhileAt rest name (k + 1) := by
  obtain ⟨h1, h2⟩ := List.getElem?_eq_some_iff.1 hp
  unfold WhileAt at h ⊢
  rw [List.drop_eq_getElem_cons h1, h2, List.takeWhile_cons, List.dropWhile_cons, if_pos hb, if_pos hb] at h
  refine ⟨?_, h.2⟩
  rw [h.1, List.take_add_one, hp]
  simp
theorem WhileAt.stop {rest : List Lab} {name : ByteArray} {k : Nat} (h : WhileAt rest name k) (hs : rest.length ≤ k ∨ ∃ p, rest[k]? = some p ∧ leB p.1 name = false) : rest.takeWhile (fun p => leB p.1 name) = rest.take k ∧ rest.dropWhile (fun p => leB p.1 name) = rest.drop k := by
  unfold WhileAt at h
  rcases hs with hs | ⟨p, hp, hb⟩
  · rw [List.drop_eq_nil_of_le hs] at h ⊢
    simpa using h
  · obtain ⟨h1, h2⟩ := List.getElem?_eq_some_iff.1 hp
    rw [List.drop_eq_getElem_cons h1, h2, List.takeWhile_cons, List.dropWhile_cons, if_neg (by simp [hb]), if_neg (by simp [hb])] at h
    rw [List.drop_eq_getElem_cons h1, h2]
    simpa using h

end Go.Proofs.YtpabbmiibehfjaaGreatDoor

/- The document's own Check. -/
namespace Go.Proofs.YtpabbmiibehfjaaGreatDoor
set_option maxRecDepth 20000
open Go.RowKit
set_option linter.unusedVariables false

def sortB : Option ByteArray → ByteArray → Bool
  | none, _ => false
  | some q, n => leB n q
def chk : Option ByteArray → List Lab → Int
  | _, [] => 0
  | prev, p :: r => if nameR p.1 = false then 31 else if validR p.2 = false then 32 else if sortB prev p.1 = true then 33 else chk (some p.1) r
def checkR (ls : List Lab) : Int := if 16 < ls.length then 30 else chk none ls
def prevOf (ls : List Lab) (k : Nat) : Option ByteArray := if k = 0 then none else (ls[k - 1]?).map (·.1)
def ChkAt (ls : List Lab) (k : Nat) (R : Int) : Prop := chk (prevOf ls k) (ls.drop k) = R
theorem ChkAt.next {ls : List Lab} {k : Nat} {R : Int} {p : Lab} (h : ChkAt ls k R) (hp : ls[k]? = some p) : (if nameR p.1 = false then 31 else if validR p.2 = false then 32 else if sortB (prevOf ls k) p.1 = true then 33 else chk (some p.1) (ls.drop (k + 1))) = R := by
  unfold ChkAt at h
  obtain ⟨h1, h2⟩ := List.getElem?_eq_some_iff.1 hp
  rw [List.drop_eq_getElem_cons h1, h2, chk] at h
  exact h
theorem prevOf_next {ls : List Lab} {k : Nat} {p : Lab} (hp : ls[k]? = some p) : prevOf ls (k + 1) = some p.1 := by
  unfold prevOf
  rw [if_neg (by omega), Nat.add_sub_cancel, hp]
  rfl

theorem check_many (a : Option Addr) (L c : Nat) (w : World) (hz : L ≤ 4398046511104) (h : 16 < L) :
    Calls Tryz.prog 52 #[.slice a L c] w fun e w' => e = .returned (.int .i64 30) ∧ w = w' := by
  have hd : decide ((16 : Int) < (L : Int)) = true := by simp; omega
  go_enter Tryz.func52, Tryz.ntmps52
  go_wp2
  go_ret
  exact ⟨rfl, rfl⟩

set_option maxHeartbeats 2000000 in
theorem check_loop (a : Option Addr) (ls : List Lab) (L c : Nat) (R : Int) (w : World) (hx : SRd labE w a ls) (hL : ls.length = L) (hz : L ≤ 16) (hR : chk none ls = R) :
    Calls Tryz.prog 52 #[.slice a L c] w fun e w' => e = .returned (.int .i64 R) ∧ w.grownBy w' none := by
  have HX : Hid (SRd labE w a ls) := hx
  have HL : Hid (ls.length = L) := hL
  have H0 : Hid (ChkAt ls 0 R) := by show chk _ _ = R; exact hR
  clear hx hL hR
  have hd : decide ((16 : Int) < (L : Int)) = false := by simp; omega
  go_enter Tryz.func52, Tryz.ntmps52
  go_wp2
  go_loopw [3] (fun i wr => ∃ k n : Nat, k ≤ L ∧ i = .int .i64 k ∧ wr = w.drewN n ∧ ChkAt ls k R) (fun i _ => L - (intOf i).toNat)
  case atStart => exact ⟨0, 0, Nat.zero_le _, rfl, rfl, H0.out⟩
  case round =>
    obtain ⟨k, m, hk, rfl, hw, hc⟩ := hrel
    have HW : Hid (∃ m, wr = w.drewN m) := ⟨m, hw⟩
    have HWC : Hid (∀ a v, w.cell? a = some v → wr.cell? a = some v) := fun a v h => by rw [hw]; exact h
    have HC : Hid (ChkAt ls k R) := hc
    clear hw hc H0
    by_cases hlt : k < L
    · have hl := HL.out
      obtain ⟨b, off, rfl, hcc⟩ := HX.out.at (by omega)
      obtain ⟨⟨s1, s2⟩, ex⟩ : ∃ x, ls[k]? = some x := ⟨_, List.getElem?_eq_getElem (by omega)⟩
      have a0 : wr.cell? ⟨b, off + k * 2, none⟩ = some (.string s1) := HWC.out _ _ (hcc k _ 0 _ ex rfl)
      have a1 : wr.cell? ⟨b, off + k * 2 + 1, none⟩ = some (.string s2) := by rw [Nat.add_assoc]; exact HWC.out _ _ (hcc k _ 1 _ ex rfl)
      have HN : Hid (_ = R) := HC.out.next ex
      have HPN : Hid (prevOf ls (k + 1) = some s1) := prevOf_next ex
      have HCn : Hid (∀ w, Calls Tryz.prog 70 #[.string s1] w fun e w' => e = .returned (.bool (nameR s1)) ∧ w = w') := r_name s1
      have HCv : Hid (∀ w, Calls Tryz.prog 71 #[.string s2] w fun e w' => e = .returned (.bool (validR s2)) ∧ w = w') := r_valid s2
      have hki : (k : Int) < (L : Int) := by omega
      have hprev : (k = 0 ∧ prevOf ls k = none) ∨ (∃ j q, k = j + 1 ∧ prevOf ls k = some q ∧ wr.cell? ⟨b, off + j * 2, none⟩ = some (.string q)) := by
        cases k with
        | zero => exact .inl ⟨rfl, rfl⟩
        | succ j =>
          obtain ⟨⟨q, q2⟩, eq⟩ : ∃ x, ls[j]? = some x := ⟨_, List.getElem?_eq_getElem (by omega)⟩
          exact .inr ⟨j, q, rfl, prevOf_next eq, HWC.out _ _ (hcc j _ 0 _ eq rfl)⟩
      clear hcc ex hl
      cases hn : nameR s1 with
      | false =>
        rw [hn] at HCn HN
        have HS : Hid ((31 : Int) = R) := by have h := HN.out; rw [if_pos rfl] at h; exact h
        clear hn hprev HN
        go_wp2_with (go_at_call 70; refine (HCn.out _).mono ?_; rintro e w1 ⟨rfl, rfl⟩)
        go_ret
        exact ⟨ret_int HS.out, gbW HW.out 0⟩
      | true =>
        rw [hn] at HCn HN
        clear hn
        cases hv : validR s2 with
        | false =>
          rw [hv] at HCv HN
          have HS : Hid ((32 : Int) = R) := by have h := HN.out; rw [if_neg (by simp), if_pos rfl] at h; exact h
          clear hv hprev HN
          go_wp2_with (first | (go_at_call 70; refine (HCn.out _).mono ?_; rintro e w1 ⟨rfl, rfl⟩) | (go_at_call 71; refine (HCv.out _).mono ?_; rintro e w1 ⟨rfl, rfl⟩))
          go_ret
          exact ⟨ret_int HS.out, gbW HW.out 0⟩
        | true =>
          rw [hv] at HCv HN
          clear hv
          have HN2 : Hid ((if sortB (prevOf ls k) s1 = true then 33 else chk (some s1) (ls.drop (k + 1))) = R) := by have h := HN.out; rw [if_neg (by simp), if_neg (by simp)] at h; exact h
          clear HN
          rcases hprev with ⟨rfl, hp⟩ | ⟨j, q, rfl, hp, a2⟩
          · have HS : Hid (ChkAt ls (0 + 1) R) := by
              have h := HN2.out
              rw [hp] at h
              show chk (prevOf ls (0 + 1)) _ = R
              rw [HPN.out]
              exact h
            rw [Nat.zero_mul, Nat.add_zero] at a0 a1
            clear HN2 hp
            go_wp2_with (first | (go_at_call 70; refine (HCn.out _).mono ?_; rintro e w1 ⟨rfl, rfl⟩) | (go_at_call 71; refine (HCv.out _).mono ?_; rintro e w1 ⟨rfl, rfl⟩))
            go_quiet (fail)
            go_wp2
            go_roundw
            case rel => obtain ⟨m, hm⟩ := HW.out; exact ⟨0 + 1, _, by omega, by go_num, by rw [hm, drewN_drewN], HS.out⟩
            case measure => simp [intOf]; omega
          · rw [hp] at HN2
            have hj1 : decide ((0 : Int) < ((j + 1 : Nat) : Int)) = true := by simp
            cases hs : leB s1 q with
            | true =>
              have hs' : (Op.bytesLess s1.toList q.toList || s1.toList == q.toList) = true := hs
              have HS : Hid ((33 : Int) = R) := by have h := HN2.out; rw [sortB, if_pos hs] at h; exact h
              clear HN2 hp hs
              go_wp2_with (first | (go_at_call 70; refine (HCn.out _).mono ?_; rintro e w1 ⟨rfl, rfl⟩) | (go_at_call 71; refine (HCv.out _).mono ?_; rintro e w1 ⟨rfl, rfl⟩))
              go_quiet (fail)
              go_wp2
              go_ret
              exact ⟨ret_int HS.out, gbW HW.out _⟩
            | false =>
              have hs' : (Op.bytesLess s1.toList q.toList || s1.toList == q.toList) = false := hs
              have HS : Hid (ChkAt ls (j + 1 + 1) R) := by
                have h := HN2.out
                rw [sortB, hs, if_neg (by simp)] at h
                show chk (prevOf ls (j + 1 + 1)) _ = R
                rw [HPN.out]
                exact h
              clear HN2 hp hs
              go_wp2_with (first | (go_at_call 70; refine (HCn.out _).mono ?_; rintro e w1 ⟨rfl, rfl⟩) | (go_at_call 71; refine (HCv.out _).mono ?_; rintro e w1 ⟨rfl, rfl⟩))
              go_quiet (fail)
              go_wp2
              go_roundw
              case rel => obtain ⟨m, hm⟩ := HW.out; exact ⟨j + 1 + 1, _, by omega, by go_num, by rw [hm, drewN_drewN], HS.out⟩
              case measure => simp [intOf]; omega
    · have HS : Hid ((0 : Int) = R) := by
        have h := HC.out
        unfold ChkAt at h
        rw [List.drop_eq_nil_of_le (by have := HL.out; omega), chk] at h
        exact h
      have hki : ¬ (k : Int) < (L : Int) := by omega
      go_wp2
      go_ret
      exact ⟨ret_int HS.out, gbW HW.out 0⟩
theorem r_check (a : Option Addr) (ls : List Lab) (L c : Nat) (R : Int) (w : World) (hx : SRd labE w a ls) (hL : ls.length = L) (hz : L ≤ 4398046511104) (hR : checkR ls = R) :
    Calls Tryz.prog 52 #[.slice a L c] w fun e w' => e = .returned (.int .i64 R) ∧ w.grownBy w' none := by
  unfold checkR at hR
  by_cases h : 16 < ls.length
  · rw [if_pos h] at hR
    subst hR
    refine (check_many a L c w hz (by omega)).mono ?_
    rintro e w' ⟨rfl, rfl⟩
    exact ⟨rfl, World.grownBy.refl _ _⟩
  · rw [if_neg h] at hR
    exact check_loop a ls L c R w hx hL (by omega) hR
end Go.Proofs.YtpabbmiibehfjaaGreatDoor

/- The document's own Encode, Hash. -/
namespace Go.Proofs.YtpabbmiibehfjaaGreatDoor
set_option maxRecDepth 20000
open Go.RowKit
set_option linter.unusedVariables false

def fnv1 (h z : Int) : Int := bits .xor .u32 h z * 16777619 % 4294967296
def fnvR (zs : List Int) : Int := zs.foldl fnv1 2166136261
def FnvAt (zs : List Int) (k : Nat) (h R : Int) : Prop := (zs.drop k).foldl fnv1 h = R
def encL (p : Lab) : List Int := enc p.1.size ++ sInts p.1 ++ enc p.2.size ++ sInts p.2
def encR (ls : List Lab) : List Int := enc ls.length ++ ls.flatMap encL
def EncAt (ls : List Lab) (k : Nat) (zk : List Int) : Prop := zk = enc ls.length ++ (ls.take k).flatMap encL
theorem EncAt.next {ls : List Lab} {k : Nat} {zk : List Int} {p : Lab} (h : EncAt ls k zk) (hp : ls[k]? = some p) : EncAt ls (k + 1) (zk ++ enc p.1.size ++ sInts p.1 ++ enc p.2.size ++ sInts p.2) := by
  unfold EncAt at h ⊢
  rw [h, List.take_add_one, hp]
  simp [encL]
theorem EncAt.le {ls : List Lab} {k : Nat} {zk : List Int} (h : EncAt ls k zk) : zk.length ≤ (encR ls).length := by
  unfold EncAt at h
  have e : encR ls = enc ls.length ++ ((ls.take k).flatMap encL ++ (ls.drop k).flatMap encL) := by
    unfold encR
    rw [← List.flatMap_append, List.take_append_drop]
  rw [h, e]
  simp only [List.length_append]
  omega

end Go.Proofs.YtpabbmiibehfjaaGreatDoor

/- Numbers' bytes are read back, and there is one form of each. -/
namespace Go.Proofs.YtpabbmiibehfjaaGreatDoor
set_option maxRecDepth 20000

theorem getD_app (xs ys : List Int) (i : Nat) : (xs ++ ys).getD (xs.length + i) 0 = ys.getD i 0 := by
  simp [List.getD_eq_getElem?_getD, List.getElem?_append_right]

theorem pow7 (i : Nat) : (2 : Int) ^ (7 * (i + 1)) = 2 ^ (7 * i) * 128 := by
  rw [show 7 * (i + 1) = 7 * i + 7 by omega, Int.pow_add]; rfl

/-- What stands from place p + i on is u's bytes: it is read. -/
theorem ud_enc (zs ys : List Int) (p : Nat) : ∀ (m i u : Nat) (a : Int), 9 - i = m → i ≤ 9 → (zs.drop (p + i) = enc u ++ ys) → (0 < i → 0 < u) → (u : Int) * 2 ^ (7 * i) < 18446744073709551616 →
    ud zs p (10 - i) i a = (a + u * 2 ^ (7 * i), ((p + i + (enc u).length : Nat) : Int), 0) := by
  intro m
  induction m with
  | zero =>
    intro i u a hm hi hd hu hb
    obtain rfl : i = 9 := by omega
    have e : (2 : Int) ^ (7 * 9) = 9223372036854775808 := by simp
    rw [e] at hb
    have hu1 : u = 1 := by omega
    subst hu1
    rw [enc_small (by omega)] at hd ⊢
    have hlen : p + 9 < zs.length := by
      have h := congrArg List.length hd
      simp at h; omega
    have hg : zs.getD (p + 9) 0 = 1 := by
      have h := congrArg (fun l => l.getD 0 0) hd
      simpa [List.getD_eq_getElem?_getD] using h
    rw [show 10 - 9 = 0 + 1 from rfl, ud, if_neg (by omega), hg, if_neg (by omega), if_pos (by omega)]
    simp
  | succ m ih =>
    intro i u a hm hi hd hu hb
    have hp : (0 : Int) < 2 ^ (7 * i) := Int.pow_pos (by decide)
    have hlen : p + i < zs.length := by
      have h := congrArg List.length hd
      have := enc_len_pos u
      simp at h; omega
    rw [show 10 - i = (9 - i) + 1 by omega, ud, if_neg (by omega)]
    by_cases h : u < 128
    · rw [enc_small h] at hd ⊢
      have hg : zs.getD (p + i) 0 = u := by
        have h := congrArg (fun l => l.getD 0 0) hd
        simpa [List.getD_eq_getElem?_getD] using h
      rw [hg, if_neg (by omega), if_pos (by omega), show (u : Int) % 128 = u by omega]
      simp
    · rw [enc_big h] at hd ⊢
      have hg : zs.getD (p + i) 0 = ((u % 128 + 128 : Nat) : Int) := by
        have h := congrArg (fun l => l.getD 0 0) hd
        simpa [List.getD_eq_getElem?_getD] using h
      rw [hg, if_neg (by omega), if_neg (by omega)]
      have hd' : zs.drop (p + (i + 1)) = enc (u / 128) ++ ys := by
        have h := congrArg (List.drop 1) hd
        rw [List.drop_drop] at h
        simpa [Nat.add_assoc] using h
      have hmul : ((u / 128 : Nat) : Int) * 2 ^ (7 * (i + 1)) ≤ (u : Int) * 2 ^ (7 * i) := by
        rw [pow7, show ((u / 128 : Nat) : Int) * (2 ^ (7 * i) * 128) = ((u / 128 : Nat) : Int) * 128 * 2 ^ (7 * i) by rw [Int.mul_comm (2 ^ (7 * i)) 128, Int.mul_assoc]]
        exact Int.mul_le_mul_of_nonneg_right (by omega) (Int.le_of_lt hp)
      have := ih (i + 1) (u / 128) (a + ((u % 128 + 128 : Nat) : Int) % 128 * 2 ^ (7 * i)) (by omega) (by omega) hd' (fun _ => by omega) (by omega)
      rw [show 9 - i = 10 - (i + 1) by omega, this]
      have e1 : ((u % 128 + 128 : Nat) : Int) % 128 = ((u % 128 : Nat) : Int) := by omega
      rw [e1, pow7]
      have e2 : a + ((u % 128 : Nat) : Int) * 2 ^ (7 * i) + ((u / 128 : Nat) : Int) * (2 ^ (7 * i) * 128) = a + (u : Int) * 2 ^ (7 * i) := by
        have e3 : (u : Int) = ((u % 128 : Nat) : Int) + ((u / 128 : Nat) : Int) * 128 := by omega
        have e4 : (u : Int) * 2 ^ (7 * i) = ((u % 128 : Nat) : Int) * 2 ^ (7 * i) + ((u / 128 : Nat) : Int) * 128 * 2 ^ (7 * i) := by
          conv => lhs; rw [e3]
          rw [Int.add_mul]
        rw [e4, Int.mul_comm (2 ^ (7 * i)) 128, ← Int.mul_assoc]
        omega
      rw [e2]
      have e5 : p + (i + 1) + (enc (u / 128)).length = p + i + (((u % 128 + 128 : Nat) : Int) :: enc (u / 128)).length := by simp; omega
      rw [e5]
theorem uintR_enc (xs ys : List Int) (v : Nat) (hv : v < 18446744073709551616) : uintR (xs ++ (enc v ++ ys)) xs.length = ((v : Int), ((xs.length + (enc v).length : Nat) : Int), 0) := by
  unfold uintR
  rw [if_neg (by simp; omega)]
  have h := ud_enc (xs ++ (enc v ++ ys)) ys xs.length 9 0 v 0 rfl (by omega) (by simp) (by omega) (by simp; omega)
  simp only [Nat.add_zero, Nat.mul_zero, Int.pow_zero, Int.mul_one, Int.zero_add, Nat.sub_zero] at h
  rw [Int.toNat_natCast, h]

/-- What is read as a number is that number's bytes. -/
theorem ud_back (zs : List Int) (p : Nat) (hz : ∀ k, 0 ≤ zs.getD k 0 ∧ zs.getD k 0 ≤ 255) : ∀ (m i : Nat) (a r1 r2 : Int), 9 - i = m → i ≤ 9 → ud zs p (10 - i) i a = (r1, r2, 0) →
    ∃ u : Nat, r1 = a + u * 2 ^ (7 * i) ∧ (0 < i → 0 < u) ∧ r2 = ((p + i + (enc u).length : Nat) : Int) ∧ (zs.drop (p + i)).take (enc u).length = enc u := by
  intro m
  induction m with
  | zero =>
    intro i a r1 r2 hm hi h
    obtain rfl : i = 9 := by omega
    have hr : URel zs p 9 a r1 r2 0 := h
    have hl : p + 9 < zs.length := by
      by_cases hl : p + 9 < zs.length
      · exact hl
      · have := hr.over hi (by omega); omega
    by_cases hf : 9 = 9 ∧ 1 < zs.getD (p + 9) 0 ∨ 0 < 9 ∧ zs.getD (p + 9) 0 = 0
    · have := hr.form hi hl hf; omega
    · have hb := hz (p + 9)
      have hd := hr.done hi hl hf (by omega)
      have hc : zs.getD (p + 9) 0 = 1 := by omega
      refine ⟨1, by rw [← hd.1, hc]; rfl, fun _ => by omega, ?_, ?_⟩
      · rw [enc_small (by omega)]; simp; omega
      · rw [enc_small (by omega)]
        refine List.ext_getElem (by simp; omega) fun j h1 h2 => ?_
        simp at h2
        subst h2
        have : zs[p + 9] = 1 := by simpa [List.getD_eq_getElem?_getD, hl] using hc
        simpa using this
  | succ m ih =>
    intro i a r1 r2 hm hi h
    have hr : URel zs p i a r1 r2 0 := h
    have hl : p + i < zs.length := by
      by_cases hl : p + i < zs.length
      · exact hl
      · have := hr.over hi (by omega); omega
    by_cases hf : i = 9 ∧ 1 < zs.getD (p + i) 0 ∨ 0 < i ∧ zs.getD (p + i) 0 = 0
    · have := hr.form hi hl hf; omega
    · have hb := hz (p + i)
      have hcons : zs.drop (p + i) = zs.getD (p + i) 0 :: zs.drop (p + (i + 1)) := by
        rw [List.drop_eq_getElem_cons hl]
        simp [List.getD_eq_getElem?_getD, hl, Nat.add_assoc]
      by_cases hc : zs.getD (p + i) 0 < 128
      · have hd := hr.done hi hl hf hc
        obtain ⟨C, hC⟩ := Int.eq_ofNat_of_zero_le hb.1
        refine ⟨C, ?_, fun h0 => by omega, ?_, ?_⟩
        · rw [← hd.1, hC, show (C : Int) % 128 = C by omega]
        · rw [enc_small (by omega)]; simp; omega
        · rw [enc_small (by omega), hcons, hC]; simp
      · have hs := hr.step hi hl hf hc
        obtain ⟨u, e1, e2, e3, e4⟩ := ih (i + 1) _ r1 r2 (by omega) (by omega) hs
        obtain ⟨C, hC⟩ := Int.eq_ofNat_of_zero_le hb.1
        have hu := e2 (by omega)
        have hbig : ¬ (C % 128 + 128 * u) < 128 := by omega
        have ed : (C % 128 + 128 * u) / 128 = u := by omega
        have em : ((((C % 128 + 128 * u) % 128 + 128 : Nat)) : Int) = (C : Int) := by omega
        refine ⟨C % 128 + 128 * u, ?_, fun _ => by omega, ?_, ?_⟩
        · rw [e1, hC, pow7]
          have e5 : (C : Int) % 128 = ((C % 128 : Nat) : Int) := by omega
          have e6 : ((C % 128 + 128 * u : Nat) : Int) = ((C % 128 : Nat) : Int) + (u : Int) * 128 := by omega
          rw [e5, e6, Int.add_mul, Int.mul_comm (2 ^ (7 * i)) 128, ← Int.mul_assoc]
          omega
        · rw [enc_big hbig, ed, e3]; simp; omega
        · rw [enc_big hbig, ed, em, hcons, hC]
          simp only [List.length_cons, List.take_succ_cons]
          rw [e4]
theorem uintR_back (zs : List Int) (p : Nat) (r1 r2 : Int) (hz : ∀ k, 0 ≤ zs.getD k 0 ∧ zs.getD k 0 ≤ 255) (h : uintR zs p = (r1, r2, 0)) :
    ∃ u : Nat, r1 = u ∧ r2 = ((p + (enc u).length : Nat) : Int) ∧ (zs.drop p).take (enc u).length = enc u := by
  unfold uintR at h
  split at h
  · simp at h
  · rw [Int.toNat_natCast] at h
    obtain ⟨u, e1, _, e3, e4⟩ := ud_back zs p hz 9 0 0 r1 r2 rfl (by omega) h
    exact ⟨u, by simpa using e1, by simpa using e3, by simpa using e4⟩
end Go.Proofs.YtpabbmiibehfjaaGreatDoor

/- Sets that may be: their order, their bytes; unlike sets have unlike bytes. -/
namespace Go.Proofs.YtpabbmiibehfjaaGreatDoor
open Go.RowKit
set_option linter.unusedVariables false
set_option maxRecDepth 20000
theorem leB_ord (a b : ByteArray) : leB a b = true ↔ ordR a b ≤ 0 := by
  unfold leB ordR bless
  rw [Bool.or_eq_true, str_eq, decide_eq_true_eq]
  constructor
  · intro h
    rcases h with h | h
    · rw [if_pos h]; omega
    · subst h
      split <;> simp
  · intro h
    split at h
    · left; assumption
    · split at h
      · right; assumption
      · omega
theorem leB_not (a b : ByteArray) : leB a b = false ↔ ordR b a < 0 := by
  have h := leB_ord a b
  have h2 := ord_ordR.anti a b
  rw [Bool.eq_false_iff, Ne, h]
  omega
def Lt (a b : Lab) : Prop := leB b.1 a.1 = false
def okL (p : Lab) : Prop := nameR p.1 = true ∧ validR p.2 = true
theorem lt_trans {a b c : ByteArray} (h1 : leB b a = false) (h2 : leB c b = false) : leB c a = false := by
  rw [leB_not] at h1 h2 ⊢
  exact (ord_ordR.all a b c).2.1 h1 (by omega)
theorem lt_ne {a b : ByteArray} (h : leB b a = false) : a ≠ b := by
  intro e
  subst e
  rw [leB_not] at h
  have := (ord_ordR.zero a a).2 rfl
  omega
theorem chk_cons (prev : Option ByteArray) (p : Lab) (r : List Lab) : chk prev (p :: r) = 0 ↔ okL p ∧ sortB prev p.1 = false ∧ chk (some p.1) r = 0 := by
  rw [chk]
  unfold okL
  cases nameR p.1 <;> cases validR p.2 <;> cases sortB prev p.1 <;> simp
theorem chk_iff : ∀ (ls : List Lab) (prev : Option ByteArray), chk prev ls = 0 ↔ (∀ p ∈ ls, okL p) ∧ ls.Pairwise Lt ∧ ∀ p ∈ ls, sortB prev p.1 = false := by
  intro ls
  induction ls with
  | nil => intro prev; simp [chk]
  | cons p r ih =>
    intro prev
    rw [chk_cons, ih, List.pairwise_cons]
    constructor
    · rintro ⟨h1, h2, h3, h4, h5⟩
      refine ⟨?_, ⟨fun q hq => h5 q hq, h4⟩, ?_⟩
      · intro q hq
        rcases List.mem_cons.1 hq with rfl | hq
        · exact h1
        · exact h3 q hq
      · intro q hq
        rcases List.mem_cons.1 hq with rfl | hq
        · exact h2
        · cases prev with
          | none => rfl
          | some a => exact lt_trans (a := a) (b := p.1) (c := q.1) h2 (h5 q hq)
    · rintro ⟨h1, ⟨h2, h3⟩, h4⟩
      exact ⟨h1 p (by simp), h4 p (by simp), fun q hq => h1 q (by simp [hq]), h3, fun q hq => h2 q hq⟩
theorem chk_none (ls : List Lab) : chk none ls = 0 ↔ (∀ p ∈ ls, okL p) ∧ ls.Pairwise Lt := by
  rw [chk_iff]
  simp [sortB]
theorem check_iff (ls : List Lab) : checkR ls = 0 ↔ ls.length ≤ 16 ∧ (∀ p ∈ ls, okL p) ∧ ls.Pairwise Lt := by
  unfold checkR
  split
  · simp; omega
  · rw [chk_none]
    constructor
    · intro h; exact ⟨by omega, h⟩
    · intro h; exact h.2
def decL (zs : List Int) : Nat → Int → List Lab → List Lab × Int × Int
  | 0, p, acc => (acc, p, 0)
  | m + 1, p, acc =>
    if (textR zs p).2.2 ≠ 0 then ([], 0, (textR zs p).2.2)
    else if (textR zs (textR zs p).2.1).2.2 ≠ 0 then ([], 0, (textR zs (textR zs p).2.1).2.2)
    else decL zs m (textR zs (textR zs p).2.1).2.1 (acc ++ [((textR zs p).1, (textR zs (textR zs p).2.1).1)])
def shut (x : List Lab × Int × Int) : List Lab × Int × Int := if x.2.2 ≠ 0 then ([], 0, x.2.2) else if checkR x.1 ≠ 0 then ([], 0, checkR x.1) else (x.1, x.2.1, 0)
def decodeR (zs : List Int) (p : Int) : List Lab × Int × Int :=
  if (uintR zs p).2.2 ≠ 0 then ([], 0, (uintR zs p).2.2)
  else if 16 < (uintR zs p).1 then ([], 0, 34)
  else shut (decL zs (uintR zs p).1.toNat (uintR zs p).2.1 [])
theorem uintR_at (xs ys : List Int) (v : Nat) (hv : v < 18446744073709551616) (zs : List Int) (hz : zs = xs ++ (enc v ++ ys)) (p : Int) (hp : p = xs.length) : uintR zs p = ((v : Int), (xs.length : Int) + (enc v).length, 0) := by
  subst hz hp
  rw [uintR_enc xs ys v hv]
  simp
theorem strOf_sInts (s : ByteArray) : strOfNums (sInts s) = s := by
  apply ByteArray.ext
  apply Array.toList_inj.1
  rw [strOfNums_data, sInts, List.map_map]
  conv => rhs; rw [← List.map_id s.data.toList]
  apply List.map_congr_left
  intro b _
  simp
theorem sInts_inj {s t : ByteArray} (h : sInts s = sInts t) : s = t := by rw [← strOf_sInts s, h, strOf_sInts]
theorem textR_at (xs ys : List Int) (s : ByteArray) (hs : s.size < 18446744073709551616) (zs : List Int) (hz : zs = xs ++ (enc s.size ++ (sInts s ++ ys))) (p : Int) (hp : p = xs.length) : textR zs p = (s, (xs.length : Int) + (enc s.size).length + s.size, 0) := by
  have h := uintR_at xs (sInts s ++ ys) s.size hs zs hz p hp
  have hl := sInts_len s
  unfold textR
  rw [h]
  simp only [if_true]
  have hlen : (zs.length : Int) = xs.length + (enc s.size).length + s.size + ys.length := by
    rw [hz]; simp; omega
  rw [if_neg (by omega)]
  have e1 : ((xs.length : Int) + ((enc s.size).length : Int)).toNat = (xs ++ enc s.size).length := by simp; omega
  have e2 : ((s.size : Nat) : Int).toNat = (sInts s).length := by omega
  rw [e1, e2, hz, show xs ++ (enc s.size ++ (sInts s ++ ys)) = (xs ++ enc s.size) ++ (sInts s ++ ys) by simp, List.drop_left, List.take_left, strOf_sInts]
theorem ok_size {p : Lab} (h : okL p) : 0 < p.1.size ∧ p.1.size ≤ 64 ∧ p.2.size ≤ 256 := by
  obtain ⟨h1, h2⟩ := h
  unfold nameR at h1
  unfold validR at h2
  simp only [Bool.and_eq_true, decide_eq_true_eq] at h1 h2
  exact ⟨h1.1.1.1, h1.1.1.2, h2.1.2⟩
theorem decL_at (ys : List Int) : ∀ (ls : List Lab) (xs : List Int) (acc : List Lab) (zs : List Int) (p : Int), (∀ q ∈ ls, okL q) → zs = xs ++ (ls.flatMap encL ++ ys) → p = xs.length → decL zs ls.length p acc = (acc ++ ls, (xs.length : Int) + (ls.flatMap encL).length, 0) := by
  intro ls
  induction ls with
  | nil => intro xs acc zs p _ _ hp; simp [decL, hp]
  | cons q r ih =>
    intro xs acc zs p hok hz hp
    obtain ⟨b0, b1, b2⟩ := ok_size (hok q (by simp))
    have l1 := sInts_len q.1
    have l2 := sInts_len q.2
    have t1 := textR_at xs (enc q.2.size ++ (sInts q.2 ++ (r.flatMap encL ++ ys))) q.1 (by omega) zs (by rw [hz, List.flatMap_cons, encL]; simp) p hp
    have t2 := textR_at (xs ++ (enc q.1.size ++ sInts q.1)) (r.flatMap encL ++ ys) q.2 (by omega) zs (by rw [hz, List.flatMap_cons, encL]; simp) ((xs.length : Int) + (enc q.1.size).length + q.1.size) (by simp; omega)
    have t3 := ih (xs ++ encL q) (acc ++ [q]) zs ((xs.length : Int) + (encL q).length) (fun x hx => hok x (by simp [hx])) (by rw [hz, List.flatMap_cons]; simp) (by simp)
    have hl : (encL q).length = (enc q.1.size).length + q.1.size + (enc q.2.size).length + q.2.size := by unfold encL; simp only [List.length_append, l1, l2]
    rw [List.length_cons, decL, t1]
    simp only [ne_eq, not_true_eq_false, if_false]
    rw [t2]
    simp only [not_true_eq_false, if_false]
    have e : (((xs ++ (enc q.1.size ++ sInts q.1)).length : Int) + ((enc q.2.size).length : Int) + (q.2.size : Int)) = (xs.length : Int) + ((encL q).length : Int) := by
      rw [hl]; simp only [List.length_append, l1]; push_cast; omega
    rw [e, t3]
    simp only [List.append_assoc, List.singleton_append, Prod.mk.injEq, true_and, and_true, List.length_append, List.flatMap_cons]
    push_cast
    omega
theorem decode_at (xs ys : List Int) (ls : List Lab) (hc : checkR ls = 0) : decodeR (xs ++ (encR ls ++ ys)) xs.length = (ls, (xs.length : Int) + (encR ls).length, 0) := by
  obtain ⟨h1, h2, h3⟩ := (check_iff ls).1 hc
  have t1 := uintR_at xs (ls.flatMap encL ++ ys) ls.length (by omega) (xs ++ (encR ls ++ ys)) (by unfold encR; simp) _ rfl
  unfold decodeR
  rw [t1]
  simp only [ne_eq, not_true_eq_false, if_false]
  rw [if_neg (by omega), Int.toNat_natCast]
  have t2 := decL_at ys ls (xs ++ enc ls.length) [] (xs ++ (encR ls ++ ys)) ((xs.length : Int) + (enc ls.length).length) h2 (by unfold encR; simp) (by simp)
  rw [t2]
  unfold shut
  simp only [ne_eq, not_true_eq_false, if_false, List.nil_append]
  rw [if_neg (by rw [hc]; simp)]
  unfold encR
  simp only [List.length_append, Prod.mk.injEq, true_and, and_true]
  push_cast
  omega
theorem enc_inj {a b : List Lab} (ha : checkR a = 0) (hb : checkR b = 0) (h : encR a = encR b) : a = b := by
  have h1 := decode_at [] [] a ha
  have h2 := decode_at [] [] b hb
  rw [h, h2] at h1
  simp only [Prod.mk.injEq] at h1
  exact h1.1.symm
theorem enc_size {ls : List Lab} (hc : checkR ls = 0) : (encR ls).length ≤ 6000 := by
  obtain ⟨h1, h2, _⟩ := (check_iff ls).1 hc
  have h4 : ∀ l : List Lab, (∀ p ∈ l, okL p) → (l.flatMap encL).length ≤ l.length * 340 := by
    intro l
    induction l with
    | nil => intro _; simp
    | cons p r ih =>
      intro h
      have h5 := ih (fun q hq => h q (by simp [hq]))
      obtain ⟨b0, b1, b2⟩ := ok_size (h p (by simp))
      have e1 := enc_len p.1.size (by omega)
      have e2 := enc_len p.2.size (by omega)
      have : (encL p).length = (enc p.1.size).length + p.1.size + (enc p.2.size).length + p.2.size := by unfold encL; simp only [List.length_append, sInts_len]
      rw [List.flatMap_cons, List.length_append, List.length_cons]
      omega
  have h5 := h4 ls h2
  have h6 := enc_len ls.length (by omega)
  unfold encR
  rw [List.length_append]
  omega
end Go.Proofs.YtpabbmiibehfjaaGreatDoor

