/- The document's own Check and Says of layer 4. -/
import Derived.Test.YtpabbmiibehfjaaGreatDoorMtRlike
import Derived.Test.YtpabbmiibehfjaaGreatDoorGw
import Derived.Test.YtpabbmiibehfjaaGreatDoorMtMats
namespace Go.Proofs.YtpabbmiibehfjaaGreatDoor.Mt
open Go.RowKit
set_option linter.unusedVariables false

def badM (m : Mat) : Bool := decide (m.1 < 1) || decide (4 < m.1) || !nameR m.2.1 || decide (256 < m.2.2.size)
def mchk (ms : List Mat) : Int := if 8 < ms.length then 41 else if ms.any badM then 40 else 0
def MchkAt (ms : List Mat) (k : Nat) (R : Int) : Prop := (if (ms.drop k).any badM then 40 else 0) = R
theorem MchkAt.next {ms : List Mat} {k : Nat} {R : Int} {m : Mat} (h : MchkAt ms k R) (hp : ms[k]? = some m) : (badM m = true → (40 : Int) = R) ∧ (badM m = false → MchkAt ms (k + 1) R) := by
  unfold MchkAt at h ⊢
  obtain ⟨h1, h2⟩ := List.getElem?_eq_some_iff.1 hp
  rw [List.drop_eq_getElem_cons h1, h2, List.any_cons] at h
  constructor
  · intro e; rw [e, Bool.true_or, if_pos rfl] at h; exact h
  · intro e; rw [e, Bool.false_or] at h; exact h
def likeS (p s : ByteArray) : Bool := likeL (sInts p) (sInts s)
def sayOne (v : ByteArray) (m : Mat) : Bool := if m.1 = 1 then decide (v = m.2.2) else if m.1 = 2 then !decide (v = m.2.2) else if m.1 = 3 then likeS m.2.2 v else if m.1 = 4 then !likeS m.2.2 v else false
def saysR (ms : List Mat) (ls : List Lab) : Bool := ms.all (fun m => sayOne (getR ls m.2.1) m)
def SaysAt (ms : List Mat) (ls : List Lab) (k : Nat) (R : Bool) : Prop := saysR (ms.drop k) ls = R
theorem SaysAt.next {ms : List Mat} {ls : List Lab} {k : Nat} {R : Bool} {m : Mat} (h : SaysAt ms ls k R) (hp : ms[k]? = some m) : (sayOne (getR ls m.2.1) m && saysR (ms.drop (k + 1)) ls) = R := by
  unfold SaysAt saysR at h
  obtain ⟨h1, h2⟩ := List.getElem?_eq_some_iff.1 hp
  rw [List.drop_eq_getElem_cons h1, h2, List.all_cons] at h
  exact h
theorem say1 (v x1 x2 : ByteArray) : sayOne v (1, x1, x2) = decide (v = x2) := by simp [sayOne]
theorem say2 (v x1 x2 : ByteArray) : sayOne v (2, x1, x2) = !decide (v = x2) := by simp [sayOne]
theorem say3 (v x1 x2 : ByteArray) : sayOne v (3, x1, x2) = likeS x2 v := by simp [sayOne]
theorem say4 (v x1 x2 : ByteArray) : sayOne v (4, x1, x2) = !likeS x2 v := by simp [sayOne]
theorem say0 (v x1 x2 : ByteArray) {x0 : Int} (h1 : ¬ x0 = 1) (h2 : ¬ x0 = 2) (h3 : ¬ x0 = 3) (h4 : ¬ x0 = 4) : sayOne v (x0, x1, x2) = false := by simp [sayOne, h1, h2, h3, h4]
theorem alts_len (p : List Int) : ∀ a ∈ alts p, a.length ≤ p.length := by
  induction p with
  | nil => intro a h; simp [alts] at h; subst h; simp
  | cons c p ih =>
    intro a h
    rw [alts] at h
    split at h
    · simp only [List.mem_cons] at h
      rcases h with rfl | h
      · simp
      · have := ih a h; simp; omega
    · split at h
      · simp at h; subst h; simp
      · rename_i b r hb
        simp only [List.mem_cons] at h
        rcases h with rfl | h
        · have := ih b (by rw [hb]; simp); simp; omega
        · have := ih a (by rw [hb]; simp [h]); simp; omega
theorem getR_size {ls : List Lab} (name : ByteArray) {B : Nat} (h : ∀ p ∈ ls, p.2.size ≤ B) : (getR ls name).size ≤ B := by
  induction ls with
  | nil => rw [getR]; exact Nat.zero_le _
  | cons p r ih =>
    rw [getR]
    split
    · exact h p (by simp)
    · exact ih (fun q hq => h q (by simp [hq]))
set_option maxHeartbeats 1000000 in
theorem r_says (a b : Option Addr) (ms : List Mat) (ls : List Lab) (L M c d : Nat) (R : Bool) (w : World) (hx : SRd matE w a ms) (hy : SRd labE w b ls) (hL : ms.length = L) (hM : ls.length = M) (hz : L ≤ 3518437208883) (hz2 : M ≤ 4398046511104) (hv : ∀ m ∈ ms, m.2.2.size ≤ 140737488356000) (hu : ∀ p ∈ ls, p.2.size ≤ 4611686018427387000) (hR : saysR ms ls = R) :
    Calls Tryz.prog 72 #[.slice a L c, .slice b M d] w fun e w' => e = .returned (.bool R) ∧ w.grownBy w' none := by
  have HX : Hid (SRd matE w a ms) := hx
  have HY : Hid (SRd labE w b ls) := hy
  have HL : Hid (ms.length = L) := hL
  have HM : Hid (ls.length = M) := hM
  have HV : Hid (∀ m ∈ ms, m.2.2.size ≤ 140737488356000) := hv
  have HU : Hid (∀ p ∈ ls, p.2.size ≤ 4611686018427387000) := hu
  have H0 : Hid (SaysAt ms ls 0 R) := by show saysR _ _ = _; rw [List.drop_zero]; exact hR
  clear hx hy hL hM hv hu hR
  go_enter Tryz.func72, Tryz.ntmps72
  go_wp2
  go_loopw [5] (fun i wr => ∃ k : Nat, k ≤ L ∧ i = .int .i64 k ∧ w.grownBy wr none ∧ SaysAt ms ls k R) (fun i _ => L - (intOf i).toNat)
  case atStart => exact ⟨0, Nat.zero_le _, rfl, World.grownBy.refl _ _, H0.out⟩
  case round =>
    obtain ⟨k, hk, rfl, hg, hc⟩ := hrel
    have HG : Hid (w.grownBy wr none) := hg
    have HC : Hid (SaysAt ms ls k R) := hc
    clear hg hc H0
    by_cases hlt : k < L
    · have hl := HL.out
      obtain ⟨ba, off, rfl, hcc⟩ := (HX.out.grown HG.out (by simp)).at (by omega)
      obtain ⟨⟨x0, x1, x2⟩, ex⟩ : ∃ x, ms[k]? = some x := ⟨_, List.getElem?_eq_getElem (by omega)⟩
      have a0 : wr.cell? ⟨ba, off + k * 3, none⟩ = some (.int .i64 x0) := hcc k _ 0 _ ex rfl
      have a1 : wr.cell? ⟨ba, off + k * 3 + 1, none⟩ = some (.string x1) := by rw [Nat.add_assoc]; exact hcc k _ 1 _ ex rfl
      have a2 : wr.cell? ⟨ba, off + k * 3 + 2, none⟩ = some (.string x2) := by rw [Nat.add_assoc]; exact hcc k _ 2 _ ex rfl
      have HN : Hid ((sayOne (getR ls x1) (x0, x1, x2) && saysR (ms.drop (k + 1)) ls) = R) := HC.out.next ex
      have HGt : Hid (Calls Tryz.prog 82 #[.slice b M d, .string x1] wr fun e w' => e = .returned (.string (getR ls x1)) ∧ wr = w') := r_get b ls M d x1 _ wr (HY.out.grown HG.out (by simp)) HM.out hz2 rfl
      have hgs := getR_size x1 HU.out
      generalize getR ls x1 = v at HN HGt hgs
      have HLk : Hid (∀ w, Calls Tryz.prog 83 #[.string x2, .string v] w fun e w' => e = .returned (.bool (likeS x2 v)) ∧ w.grownBy w' none) := fun w => by
        have h2 := HV.out _ (List.mem_of_getElem? ex)
        exact r_like x2 v _ w (by simp only at h2; omega) (fun a ha => by have := alts_len _ a ha; rw [sInts_len] at this; simp only at h2; omega) hgs rfl
      have hki : (k : Int) < (L : Int) := by omega
      clear hcc ex hl hgs
      by_cases e1 : x0 = 1
      · subst e1
        by_cases hv : v = x2
        · have q1 : (v.toList == x2.toList) = true := by rw [str_eq]; simpa using hv
          have HS : Hid (SaysAt ms ls (k + 1) R) := by have h := HN.out; rw [say1, decide_eq_true hv, Bool.true_and] at h; exact h
          clear HN hv
          go_wp2_with (go_at_call 82; refine HGt.out.mono ?_; rintro e w1 ⟨rfl, rfl⟩)
          go_roundw
          case rel => exact ⟨k + 1, by omega, by go_num, HG.out, HS.out⟩
          case measure => simp [intOf]; omega
        · have q1 : (v.toList == x2.toList) = false := by rw [str_eq]; simpa using hv
          have HS : Hid (false = R) := by have h := HN.out; rw [say1, decide_eq_false hv, Bool.false_and] at h; exact h
          clear HN hv
          go_wp2_with (go_at_call 82; refine HGt.out.mono ?_; rintro e w1 ⟨rfl, rfl⟩)
          go_ret
          exact ⟨ret_bool HS.out, HG.out⟩
      · have n1 : (x0 == 1) = false := by simpa using e1
        by_cases e2 : x0 = 2
        · subst e2
          clear e1 n1
          by_cases hv : v = x2
          · have q1 : (v.toList == x2.toList) = true := by rw [str_eq]; simpa using hv
            have HS : Hid (false = R) := by have h := HN.out; rw [say2, decide_eq_true hv, Bool.not_true, Bool.false_and] at h; exact h
            clear HN hv
            go_wp2_with (go_at_call 82; refine HGt.out.mono ?_; rintro e w1 ⟨rfl, rfl⟩)
            go_ret
            exact ⟨ret_bool HS.out, HG.out⟩
          · have q1 : (v.toList == x2.toList) = false := by rw [str_eq]; simpa using hv
            have HS : Hid (SaysAt ms ls (k + 1) R) := by have h := HN.out; rw [say2, decide_eq_false hv, Bool.not_false, Bool.true_and] at h; exact h
            clear HN hv
            go_wp2_with (go_at_call 82; refine HGt.out.mono ?_; rintro e w1 ⟨rfl, rfl⟩)
            go_roundw
            case rel => exact ⟨k + 1, by omega, by go_num, HG.out, HS.out⟩
            case measure => simp [intOf]; omega
        · have n2 : (x0 == 2) = false := by simpa using e2
          by_cases e3 : x0 = 3
          · subst e3
            clear e1 n1 e2 n2
            cases hlb : likeS x2 v with
            | true =>
              have HS : Hid (SaysAt ms ls (k + 1) R) := by have h := HN.out; rw [say3, hlb, Bool.true_and] at h; exact h
              rw [hlb] at HLk
              clear HN hlb
              go_wp2_with fail
              refine HGt.out.mono ?_
              rintro e w1 ⟨rfl, rfl⟩
              go_wp2_with fail
              refine (HLk.out _).mono ?_
              rintro e w2 ⟨rfl, hg2⟩
              have HG2 : Hid (w.grownBy w2 none) := HG.out.trans hg2
              clear hg2
              go_wp2
              go_roundw
              case rel => exact ⟨k + 1, by omega, by go_num, HG2.out, HS.out⟩
              case measure => simp [intOf]; omega
            | false =>
              have HS : Hid (false = R) := by have h := HN.out; rw [say3, hlb, Bool.false_and] at h; exact h
              rw [hlb] at HLk
              clear HN hlb
              go_wp2_with fail
              refine HGt.out.mono ?_
              rintro e w1 ⟨rfl, rfl⟩
              go_wp2_with fail
              refine (HLk.out _).mono ?_
              rintro e w2 ⟨rfl, hg2⟩
              have HG2 : Hid (w.grownBy w2 none) := HG.out.trans hg2
              clear hg2
              go_wp2
              go_ret
              exact ⟨ret_bool HS.out, HG2.out⟩
          · have n3 : (x0 == 3) = false := by simpa using e3
            by_cases e4 : x0 = 4
            · subst e4
              clear e1 n1 e2 n2 e3 n3
              cases hlb : likeS x2 v with
              | true =>
                have HS : Hid (false = R) := by have h := HN.out; rw [say4, hlb, Bool.not_true, Bool.false_and] at h; exact h
                rw [hlb] at HLk
                clear HN hlb
                go_wp2_with fail
                refine HGt.out.mono ?_
                rintro e w1 ⟨rfl, rfl⟩
                go_wp2_with fail
                refine (HLk.out _).mono ?_
                rintro e w2 ⟨rfl, hg2⟩
                have HG2 : Hid (w.grownBy w2 none) := HG.out.trans hg2
                clear hg2
                go_wp2
                go_ret
                exact ⟨ret_bool HS.out, HG2.out⟩
              | false =>
                have HS : Hid (SaysAt ms ls (k + 1) R) := by have h := HN.out; rw [say4, hlb, Bool.not_false, Bool.true_and] at h; exact h
                rw [hlb] at HLk
                clear HN hlb
                go_wp2_with fail
                refine HGt.out.mono ?_
                rintro e w1 ⟨rfl, rfl⟩
                go_wp2_with fail
                refine (HLk.out _).mono ?_
                rintro e w2 ⟨rfl, hg2⟩
                have HG2 : Hid (w.grownBy w2 none) := HG.out.trans hg2
                clear hg2
                go_wp2
                go_roundw
                case rel => exact ⟨k + 1, by omega, by go_num, HG2.out, HS.out⟩
                case measure => simp [intOf]; omega
            · have n4 : (x0 == 4) = false := by simpa using e4
              have HS : Hid (false = R) := by have h := HN.out; rw [say0 v x1 x2 e1 e2 e3 e4, Bool.false_and] at h; exact h
              clear HN e1 e2 e3 e4 HLk
              go_wp2_with (go_at_call 82; refine HGt.out.mono ?_; rintro e w1 ⟨rfl, rfl⟩)
              go_ret
              exact ⟨ret_bool HS.out, HG.out⟩
    · have HS : Hid (true = R) := by
        have h := HC.out
        unfold SaysAt at h
        rw [List.drop_eq_nil_of_le (by have := HL.out; omega)] at h
        exact h
      have hki : ¬ (k : Int) < (L : Int) := by omega
      go_wp2
      go_ret
      exact ⟨ret_bool HS.out, HG.out⟩
end Go.Proofs.YtpabbmiibehfjaaGreatDoor.Mt
