/- Objects: keys, an object's file, the disk of a store. (No program's numbers.) -/
import Derived.Test.YtlmddmfoodejmaaMf
import Derived.Test.YtlmddmfoodejmaaMn
namespace Go.Proofs.Ytlmddmfoodejmaa
open Go
set_option linter.unusedVariables false

def bN (l : List UInt8) : ByteArray := ⟨l.toArray⟩
theorem bN_list (l : List UInt8) : (bN l).data.toList = l := rfl
theorem bN_inj {l l' : List UInt8} (h : bN l = bN l') : l = l' := by
  have := congrArg (fun b : ByteArray => b.data.toList) h
  exact this
theorem bN_self (s : ByteArray) : bN s.data.toList = s := rfl
theorem bN_size (l : List UInt8) : (bN l).size = l.length := rfl
theorem ba_app (a b : ByteArray) : a ++ b = bN (a.data.toList ++ b.data.toList) := by
  apply ByteArray.ext
  show (a ++ b).data = (a.data.toList ++ b.data.toList).toArray
  rw [ByteArray.data_append]
  simp
def oN (k : ByteArray) : ByteArray := bN ([111, 47] ++ k.data.toList)
def tN (k : ByteArray) : ByteArray := bN ([116, 47] ++ k.data.toList)
theorem oN_eq (k : ByteArray) : (⟨#[111, 47]⟩ : ByteArray) ++ k = oN k := ba_app _ _
theorem tN_eq (k : ByteArray) : (⟨#[116, 47]⟩ : ByteArray) ++ k = tN k := ba_app _ _
theorem oN_inj {k j : ByteArray} (h : oN k = oN j) : k = j := by
  have := bN_inj h
  simp at this
  rw [← bN_self k, this, bN_self]
theorem tN_inj {k j : ByteArray} (h : tN k = tN j) : k = j := by
  have := bN_inj h
  simp at this
  rw [← bN_self k, this, bN_self]
theorem ot_ne (k j : ByteArray) : oN k ≠ tN j := by
  intro h
  have := bN_inj h
  simp at this
theorem oN_size (k : ByteArray) : (oN k).size = k.size + 2 := by
  show ([111, 47] ++ k.data.toList : List UInt8).length = _
  have : k.data.toList.length = k.size := Array.length_toList
  simp only [List.length_append, List.length_cons, List.length_nil, this]
  omega
theorem tN_size (k : ByteArray) : (tN k).size = k.size + 2 := by
  show ([116, 47] ++ k.data.toList : List UInt8).length = _
  have : k.data.toList.length = k.size := Array.length_toList
  simp only [List.length_append, List.length_cons, List.length_nil, this]
  omega
/-- Is it a key? -/
def keyB (s : ByteArray) : Bool := nameB s && decide (s.size ≤ 56) && !Lib.hasPrefix s.data.toList [111, 47] && !Lib.hasPrefix s.data.toList [116, 47]
theorem keyB_name {s : ByteArray} (h : keyB s = true) : nameB s = true ∧ s.size ≤ 56 ∧ 1 ≤ s.size := by
  simp only [keyB, Bool.and_eq_true, decide_eq_true_eq] at h
  have h1 := h.1.1.1
  refine ⟨h1, h.1.1.2, ?_⟩
  simp only [nameB, Bool.and_eq_true, decide_eq_true_eq] at h1
  exact h1.1.1
theorem sInts_bN (l : List UInt8) : sInts (bN l) = l.map (fun b => (b.toNat : Int)) := rfl
theorem name_oN {k : ByteArray} (h : keyB k = true) : nameB (oN k) = true := by
  obtain ⟨h1, h2, h3⟩ := keyB_name h
  have ha : (sInts k).all nameC = true := by
    simp only [nameB, Bool.and_eq_true] at h1
    exact h1.2
  have hs := oN_size k
  unfold nameB
  rw [show sInts (oN k) = [111, 47] ++ sInts k from rfl, List.all_append, ha]
  simp [show nameC 111 = true from by decide, show nameC 47 = true from by decide]
  omega
theorem name_tN {k : ByteArray} (h : keyB k = true) : nameB (tN k) = true := by
  obtain ⟨h1, h2, h3⟩ := keyB_name h
  have ha : (sInts k).all nameC = true := by
    simp only [nameB, Bool.and_eq_true] at h1
    exact h1.2
  have hs := tN_size k
  unfold nameB
  rw [show sInts (tN k) = [116, 47] ++ sInts k from rfl, List.all_append, ha]
  simp [show nameC 116 = true from by decide, show nameC 47 = true from by decide]
  omega
/-- An object's file. -/
def objB (g : Nat) (d : List Int) : List Int := frameR (enc g) ++ d
/-- What a store has: keys with generations and bytes. -/
abbrev Objs := ByteArray → Option (Nat × List Int)
def setO (O : Objs) (k : ByteArray) (o : Option (Nat × List Int)) : Objs := fun x => if x = k then o else O x
theorem setO_same (O : Objs) (k : ByteArray) (o : Option (Nat × List Int)) : setO O k o k = o := if_pos rfl
theorem setO_other (O : Objs) {k x : ByteArray} (o : Option (Nat × List Int)) (h : x ≠ k) : setO O k o x = O x := if_neg h
def fileV (p : Nat × List Int) : List Int × Nat := (objB p.1 p.2, (objB p.1 p.2).length)
/-- The disk of a store without drafts. -/
def objV (O : Objs) : Cont := fun s => if s.data.toList.take 2 = [111, 47] then (O (bN (s.data.toList.drop 2))).map fileV else none
theorem objV_o (O : Objs) (k : ByteArray) : objV O (oN k) = (O k).map fileV := by
  unfold objV
  rw [oN, bN_list, if_pos (by simp), show ([111, 47] ++ k.data.toList : List UInt8).drop 2 = k.data.toList from rfl, bN_self]
theorem objV_t (O : Objs) (k : ByteArray) : objV O (tN k) = none := by
  unfold objV
  rw [tN, bN_list, if_neg (by simp)]
theorem o_of {s : ByteArray} (h : s.data.toList.take 2 = [111, 47]) : s = oN (bN (s.data.toList.drop 2)) := by
  rw [oN, bN_list, ← h, List.take_append_drop, bN_self]
theorem objV_other (O : Objs) {s : ByteArray} (h : ∀ k, s ≠ oN k) : objV O s = none := by
  unfold objV
  rw [if_neg (fun e => h _ (o_of e))]
theorem objV_set (O : Objs) (k : ByteArray) (p : Nat × List Int) : objV (setO O k (some p)) = setV (objV O) (oN k) (some (fileV p)) := by
  funext s
  by_cases e : s = oN k
  · subst e
    rw [objV_o, setO_same, setV_same]
    rfl
  · rw [setV_other _ _ e]
    by_cases h : s.data.toList.take 2 = [111, 47]
    · rw [o_of h, objV_o, objV_o, setO_other]
      intro e'
      exact e (by rw [o_of h, e'])
    · unfold objV
      rw [if_neg h, if_neg h]
theorem objV_del (O : Objs) (k : ByteArray) : objV (setO O k none) = setV (objV O) (oN k) none := by
  funext s
  by_cases e : s = oN k
  · subst e
    rw [objV_o, setO_same, setV_same]
    rfl
  · rw [setV_other _ _ e]
    by_cases h : s.data.toList.take 2 = [111, 47]
    · rw [o_of h, objV_o, objV_o, setO_other]
      intro e'
      exact e (by rw [o_of h, e'])
    · unfold objV
      rw [if_neg h, if_neg h]
/-- A disk with at most one draft. -/
def draftV (O : Objs) (k : ByteArray) (q : Option (List Int × Nat)) : Cont := setV (objV O) (tN k) q
theorem setV_setV (V : Cont) (s : ByteArray) (a b : Option (List Int × Nat)) : setV (setV V s a) s b = setV V s b := by
  funext x
  by_cases e : x = s
  · subst e; rw [setV_same, setV_same]
  · rw [setV_other _ _ e, setV_other _ _ e, setV_other _ _ e]
theorem setV_comm (V : Cont) {s t : ByteArray} (h : s ≠ t) (a b : Option (List Int × Nat)) : setV (setV V s a) t b = setV (setV V t b) s a := by
  funext x
  by_cases e : x = s
  · subst e
    rw [setV_other _ _ h, setV_same, setV_same]
  · rw [setV_other _ a e]
    by_cases e' : x = t
    · subst e'; rw [setV_same, setV_same]
    · rw [setV_other _ _ e', setV_other _ _ e', setV_other _ _ e]
theorem setV_self (V : Cont) (s : ByteArray) : setV V s (V s) = V := by
  funext x
  by_cases e : x = s
  · subst e; rw [setV_same]
  · rw [setV_other _ _ e]
theorem draft_none (O : Objs) (k : ByteArray) : draftV O k none = objV O := by
  unfold draftV
  rw [← objV_t O k, setV_self]
theorem draft_t (O : Objs) (k : ByteArray) (q : Option (List Int × Nat)) : draftV O k q (tN k) = q := setV_same _ _ _
theorem draft_o (O : Objs) (k j : ByteArray) (q : Option (List Int × Nat)) : draftV O k q (oN j) = (O j).map fileV := by
  unfold draftV
  rw [setV_other _ _ (ot_ne j k), objV_o]
theorem draft_set (O : Objs) (k : ByteArray) (q r : Option (List Int × Nat)) : setV (draftV O k q) (tN k) r = draftV O k r := setV_setV _ _ _ _
/-- A draft that gets its place. -/
theorem draft_place (O : Objs) (k : ByteArray) (q : Option (List Int × Nat)) (p : Nat × List Int) : setV (setV (draftV O k q) (tN k) none) (oN k) (some (fileV p)) = objV (setO O k (some p)) := by
  rw [draft_set, draft_none, objV_set]
theorem keptN_zero (keep : Int) : keptN keep 0 = 0 := by
  unfold keptN
  split <;> omega
/-- What is synced stays. -/
theorem cutV_file (keep : Int) (p : Nat × List Int) : cutV keep (fileV p) = fileV p := by
  unfold cutV fileV
  dsimp only
  rw [Nat.sub_self, keptN_zero, Nat.add_zero, List.take_length]
theorem draft_cut (O : Objs) (k : ByteArray) (q : Option (List Int × Nat)) (keep : Int) : (fun s => (draftV O k q s).map (cutV keep)) = draftV O k (q.map (cutV keep)) := by
  funext s
  by_cases e : s = tN k
  · subst e
    rw [draft_t, draft_t]
  · show (setV _ _ _ s).map _ = setV _ _ _ s
    rw [setV_other _ _ e, setV_other _ _ e]
    by_cases h : s.data.toList.take 2 = [111, 47]
    · rw [o_of h, objV_o]
      cases O (bN (s.data.toList.drop 2)) with
      | none => rfl
      | some p => exact congrArg some (cutV_file keep p)
    · unfold objV
      rw [if_neg h]
      rfl
/-- The object that a file's bytes are. -/
theorem read_frame (g : Nat) (d : List Int) (hg : g < 18446744073709551616) : uframeR (objB g d) 0 = (enc g, ((frameR (enc g)).length : Int), 0) := by
  have h := uframeR_at [] d (enc g) (by have := enc_len g hg; omega) (objB g d) rfl 0 rfl
  simpa using h
theorem read_gen (g : Nat) (hg : g < 18446744073709551616) : uintR (enc g) 0 = ((g : Int), ((enc g).length : Int), 0) := by
  have h := uintR_at [] [] g hg (enc g) (by simp) 0 rfl
  simpa using h
theorem frame_enc_len (g : Nat) (hg : g < 18446744073709551616) : (frameR (enc g)).length ≤ 25 := by
  have h1 := enc_len g hg
  have h2 := enc_len (enc g).length (by omega)
  have h4 : (four (sumR (enc g))).length = 4 := rfl
  rw [frameR]
  simp only [List.length_append, h4]
  omega
end Go.Proofs.Ytlmddmfoodejmaa
