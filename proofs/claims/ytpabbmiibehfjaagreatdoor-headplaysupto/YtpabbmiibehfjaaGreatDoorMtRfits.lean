/- An alternative's pieces against a text. -/
import Derived.Test.YtpabbmiibehfjaaGreatDoorShelf
import Derived.Test.YtpabbmiibehfjaaGreatDoorMtFmath
import Derived.Test.YtpabbmiibehfjaaGreatDoorGa
import Derived.Test.YtpabbmiibehfjaaGreatDoorGw
namespace Go.Proofs.YtpabbmiibehfjaaGreatDoor.Mt
open Go.RowKit
set_option linter.unusedVariables false

theorem fitsL_idx {L : List (List UInt8)} {n : Nat} {p0 pl : List UInt8} (hn : L.length = n) (h2 : 2 ≤ n) (h0 : L[0]? = some p0) (hl : L[n - 1]? = some pl) (s : List UInt8) :
    fitsL L s = fin pl ((L.drop 1).take (n - 2)) (Lib.trimPrefix s p0) (Lib.hasPrefix s p0) := by
  match L, hn, h0, hl with
  | [], hn, _, _ => simp at hn; omega
  | [_], hn, _, _ => simp at hn; omega
  | p :: q :: r, hn, h0, hl =>
    simp only [List.getElem?_cons_zero, Option.some.injEq] at h0
    subst h0
    simp only [List.length_cons] at hn
    have e1 : (q :: r).getLast (by simp) = pl := by
      have h := List.getLast?_eq_some_getLast (l := q :: r) (by simp)
      rw [List.getLast?_eq_getElem?] at h
      have e : n - 1 = (q :: r).length - 1 + 1 := by simp; omega
      rw [e, List.getElem?_cons_succ] at hl
      rw [hl] at h
      exact (Option.some.inj h).symm
    have e2 : (q :: r).dropLast = ((p :: q :: r).drop 1).take (n - 2) := by
      rw [List.dropLast_eq_take, List.drop_succ_cons, List.drop_zero]
      congr 1
      simp
      omega
    show fin ((q :: r).getLast (by simp)) (q :: r).dropLast _ _ = _
    rw [e1, e2]
theorem fin_step {last : List UInt8} {ts : List (List UInt8)} {k : Nat} {t s : List UInt8} (h : ts[k]? = some t) : fin last (ts.drop k) s true = fin last (ts.drop (k + 1)) (Lib.cut s t).2.1 (Lib.cut s t).2.2 := by
  have hk : k < ts.length := (List.getElem?_eq_some_iff.1 h).1
  have e : ts.drop k = t :: ts.drop (k + 1) := by
    rw [List.drop_eq_getElem_cons hk]
    congr 1
    exact (List.getElem?_eq_some_iff.1 h).2
  rw [e]
  rfl
theorem cut_len (s t : List UInt8) : (Lib.cut s t).2.1.length ≤ s.length := by
  unfold Lib.cut
  split
  · simp
  · simp
theorem mk_size (l : List UInt8) : (⟨l.toArray⟩ : ByteArray).size = l.length := by simp [ByteArray.size]

set_option maxHeartbeats 2000000 in
theorem r_fits (b n c : Nat) (ps : List ByteArray) (s : ByteArray) (R : Bool) (mx : Int) (w : World) (hn : ps.length = n) (h1 : 1 ≤ n) (hnc : n ≤ c) (hz : n ≤ 4294967296) (hs : s.size ≤ 2147483648)
    (hc : ∀ j x, ps[j]? = some x → w.cell? ⟨b, j, none⟩ = some (.string x)) (hm : w.cell? ⟨0, 0, none⟩ = some (.int .i64 mx)) (hR : fitsL (ps.map (·.data.toList)) s.data.toList = R) :
    Calls Tryz.prog 110 #[.slice (some ⟨b, 0, none⟩) n c, .string s] w fun e w' => e = .returned (.bool R) ∧ ∃ k, w' = w.drewN k := by
  have HC : Hid (∀ j x, ps[j]? = some x → w.cell? ⟨b, j, none⟩ = some (.string x)) := hc
  have HM : Hid (w.cell? ⟨0, 0, none⟩ = some (.int .i64 mx)) := hm
  have HN : Hid (ps.length = n) := hn
  have HR : Hid (fitsL (ps.map (·.data.toList)) s.data.toList = R) := hR
  obtain ⟨p0, e0⟩ : ∃ x, ps[0]? = some x := ⟨_, List.getElem?_eq_getElem (by omega)⟩
  have c0 := hc 0 _ e0
  by_cases hone : n = 1
  · subst hone
    have HE : Hid (decide (s = p0) = R) := by
      have h := HR.out
      match ps, HN.out, e0, h with
      | [q], _, e0, h =>
        simp only [List.getElem?_cons_zero, Option.some.injEq] at e0
        subst e0
        have h : decide (s.data.toList = q.data.toList) = R := h
        show decide (s = q) = R
        rw [← h, decide_eq_decide]
        exact ⟨fun e => by rw [e], fun e => by cases s; cases q; simp at e; simp [e]⟩
    clear hn h1 hnc hz hc hm hR e0
    by_cases heq : s = p0
    · have q1 : (s.toList == p0.toList) = true := by rw [str_eq]; simpa using heq
      rw [decide_eq_true heq] at HE
      clear heq
      go_enter Tryz.func110, Tryz.ntmps110
      go_wp2
      go_ret
      exact ⟨ret_bool HE.out, 0, rfl⟩
    · have q1 : (s.toList == p0.toList) = false := by rw [str_eq]; simpa using heq
      rw [decide_eq_false heq] at HE
      clear heq
      go_enter Tryz.func110, Tryz.ntmps110
      go_wp2
      go_ret
      exact ⟨ret_bool HE.out, 0, rfl⟩
  · obtain ⟨pl, el⟩ : ∃ x, ps[n - 1]? = some x := ⟨_, List.getElem?_eq_getElem (by omega)⟩
    have HF : Hid (fin pl.data.toList (((ps.map (·.data.toList)).drop 1).take (n - 2)) (Lib.trimPrefix s.data.toList p0.data.toList) (Lib.hasPrefix s.data.toList p0.data.toList) = R) := by
      show _ = _
      rw [← fitsL_idx (n := n) (by rw [List.length_map]; exact HN.out) (by omega) (by rw [List.getElem?_map, e0]; rfl) (by rw [List.getElem?_map, el]; rfl)]
      exact HR.out
    have HT : Hid (Calls Tryz.prog 121 #[.string s, .string p0] w fun e w' => e = .returned (.tuple #[.string ⟨(Lib.trimPrefix s.data.toList p0.data.toList).toArray⟩, .bool (Lib.hasPrefix s.data.toList p0.data.toList)]) ∧ w = w') := (Tryz.strings_CutPrefix s p0 w).mono fun e w' ⟨he, hw⟩ => ⟨he, hw.symm⟩
    have hts : (⟨(Lib.trimPrefix s.data.toList p0.data.toList).toArray⟩ : ByteArray).size ≤ s.size := by rw [mk_size, Lib.size_eq]; exact Lib.trimPrefix_le _ _
    have htd : (⟨(Lib.trimPrefix s.data.toList p0.data.toList).toArray⟩ : ByteArray).data.toList = Lib.trimPrefix s.data.toList p0.data.toList := by simp
    generalize Lib.hasPrefix s.data.toList p0.data.toList = ok0 at HF HT
    rw [← htd] at HF
    clear htd
    generalize (⟨(Lib.trimPrefix s.data.toList p0.data.toList).toArray⟩ : ByteArray) = s0 at HF HT hts
    obtain ⟨m, rfl⟩ : ∃ m, n = m + 2 := ⟨n - 2, by omega⟩
    have HL : Hid (ps[m + 1]? = some pl) := el
    have cl := hc (m + 1) _ el
    clear hn h1 hc hm hR e0 el hone HR
    go_enter Tryz.func110, Tryz.ntmps110
    go_wp2_with (go_at_call 121; refine HT.out.mono ?_; rintro e w' ⟨rfl, rfl⟩)
    clear HT c0
    rw [show m + 2 - 1 - 1 = m from by omega]
    go_loopw [1, 6, 31] (fun sv okv i wr => ∃ (k : Nat) (s' : ByteArray) (ok : Bool), k ≤ m ∧ i = .int .i64 k ∧ sv = .string s' ∧ okv = .bool ok ∧ s'.size ≤ s.size ∧ (∃ d, wr = w.drewN d) ∧ fin pl.data.toList ((((ps.map (·.data.toList)).drop 1).take m).drop k) s'.data.toList ok = R) (fun _ _ i _ => m - (intOf i).toNat)
    case atStart => exact ⟨0, s0, ok0, Nat.zero_le _, rfl, rfl, rfl, hts, ⟨0, rfl⟩, HF.out⟩
    case round =>
      obtain ⟨k, s', ok, hk, rfl, rfl, rfl, hs', ⟨d, rfl⟩, hf⟩ := hrel
      have HFk : Hid (fin pl.data.toList ((((ps.map (·.data.toList)).drop 1).take m).drop k) s'.data.toList ok = R) := hf
      clear hf HF
      by_cases hlt : k < m
      · obtain ⟨t, et⟩ : ∃ x, ps[k + 1]? = some x := ⟨_, List.getElem?_eq_getElem (by have := HN.out; omega)⟩
        have ct : w.cell? ⟨b, 1 + k, none⟩ = some (.string t) := by rw [Nat.add_comm]; exact HC.out (k + 1) _ et
        have hki : (k : Int) < (m : Int) := by omega
        have HX : Hid (∀ s : List UInt8, fin pl.data.toList ((((ps.map (·.data.toList)).drop 1).take m).drop k) s true = fin pl.data.toList ((((ps.map (·.data.toList)).drop 1).take m).drop (k + 1)) (Lib.cut s t.data.toList).2.1 (Lib.cut s t.data.toList).2.2) := fun s => fin_step (by rw [List.getElem?_take_of_lt hlt, List.getElem?_drop, Nat.add_comm 1 k, List.getElem?_map, et]; rfl)
        clear et
        cases ok with
        | false =>
          have HS : Hid (false = R) := by have h := HFk.out; rw [fin_false] at h; exact h
          clear HFk HX
          go_wp2
          go_ret
          exact ⟨ret_bool HS.out, d, rfl⟩
        | true =>
          have HK : Hid (Calls Tryz.prog 122 #[.string s', .string t] (w.drewN d) fun e w' => e = .returned (.tuple #[.string ⟨(Lib.cut s'.data.toList t.data.toList).1.toArray⟩, .string ⟨(Lib.cut s'.data.toList t.data.toList).2.1.toArray⟩, .bool (Lib.cut s'.data.toList t.data.toList).2.2]) ∧ ∃ n, w' = (w.drewN d).drewN n) := Tryz.strings_Cut s' t mx (w.drewN d) (by omega) HM.out
          have hcs : (⟨(Lib.cut s'.data.toList t.data.toList).2.1.toArray⟩ : ByteArray).size ≤ s'.size := by rw [mk_size, Lib.size_eq]; exact cut_len _ _
          have hcd : (⟨(Lib.cut s'.data.toList t.data.toList).2.1.toArray⟩ : ByteArray).data.toList = (Lib.cut s'.data.toList t.data.toList).2.1 := by simp
          have HN2 : Hid (fin pl.data.toList ((((ps.map (·.data.toList)).drop 1).take m).drop (k + 1)) (Lib.cut s'.data.toList t.data.toList).2.1 (Lib.cut s'.data.toList t.data.toList).2.2 = R) := by
            have h := HFk.out; rw [HX.out] at h; exact h
          rw [← hcd] at HN2
          clear HFk HX hcd
          generalize (⟨(Lib.cut s'.data.toList t.data.toList).2.1.toArray⟩ : ByteArray) = s2 at HK hcs HN2
          generalize (Lib.cut s'.data.toList t.data.toList).2.2 = ok2 at HK HN2
          generalize (⟨(Lib.cut s'.data.toList t.data.toList).1.toArray⟩ : ByteArray) = s1 at HK
          go_wp2_with (go_at_call 122; refine HK.out.mono ?_; rintro e w' ⟨rfl, nd, rfl⟩)
          go_roundw
          case rel => exact ⟨k + 1, s2, ok2, by omega, by go_num, rfl, rfl, by omega, ⟨_, rfl⟩, HN2.out⟩
          case measure => simp [intOf]; omega
      · obtain rfl : k = m := by omega
        have HE : Hid ((ok && Lib.hasSuffix s'.data.toList pl.data.toList) = R) := by
          have h := HFk.out
          rw [List.drop_eq_nil_of_le (by simp [List.length_take]; omega)] at h
          exact h
        have HS : Hid (Calls Tryz.prog 123 #[.string s', .string pl] (w.drewN d) fun e w' => e = .returned (.bool (Lib.hasSuffix s'.data.toList pl.data.toList)) ∧ w.drewN d = w') := (Tryz.strings_HasSuffix s' pl (w.drewN d) (by omega)).mono fun e w' ⟨he, hw⟩ => ⟨he, hw.symm⟩
        clear HFk
        generalize Lib.hasSuffix s'.data.toList pl.data.toList = sf at HE HS
        cases ok with
        | false =>
          have HE2 : Hid (false = R) := by have h := HE.out; rw [Bool.false_and] at h; exact h
          go_wp2
          go_ret
          exact ⟨ret_bool HE2.out, d, rfl⟩
        | true =>
          have HE2 : Hid (sf = R) := by have h := HE.out; rw [Bool.true_and] at h; exact h
          go_wp2_with (go_at_call 123; refine HS.out.mono ?_; rintro e w' ⟨rfl, rfl⟩)
          go_ret
          exact ⟨ret_bool HE2.out, d, rfl⟩
end Go.Proofs.YtpabbmiibehfjaaGreatDoor.Mt
