/- Package disk: how a disk lies in memory. -/
import Derived.Test.YtdnkdopjlobklaaBytes
import Derived.Maps.OwnSet
import Derived.Maps.OwnOps
import Derived.Deep.OwnRows
import Derived.StringKeys
namespace Go.Proofs.Ytdnkdopjlobklaa
open Go.RowKit Go.Maps
set_option linter.unusedVariables false
set_option maxRecDepth 20000

def byteE : Elem Int where
  cells z := [.int .u8 z]
  size := 1
  pos := by decide
  len _ := rfl
  one z v h := by
    simp only [List.mem_cons, List.mem_nil_iff, or_false] at h
    subst h
    rfl
theorem byteE_flat (zs : List Int) : byteE.flat zs = zs.map (Value.int .u8) := by
  unfold Elem.flat
  induction zs with
  | nil => rfl
  | cons z r ih => rw [List.flatMap_cons, ih]; rfl
theorem byteET : ElemOf byteE Try.prog 31 5 1 := by
  obtain ⟨i0, hi, hz0, hz1, hz2⟩ := info_parts info5
  exact ⟨Try.underlying31, i0, _, hi, hz0, hz1, hz2, rfl⟩
/-- What a disk's struct holds. -/
def DiskF (mb : Nat) (off set : Bool) (ah kp wr : Int) : Nat → Value
  | 0 => .map (some mb)
  | 1 => .bool off
  | 2 => .bool set
  | 3 => .int .i64 ah
  | 4 => .int .i64 kp
  | _ => .int .u64 wr
def FileF (v : Value) (s : Nat) : Nat → Value
  | 0 => v
  | _ => .int .i64 s
/-- How a pointer among a map's elements reads: by its block. -/
def ptrD : Option Nat → DataW Unit
  | some b => .lit (.int .i64 b)
  | none => .lit (.int .i64 (-1))
def ptrE : Value → Option (DataW Unit × List MemPlace)
  | .pointer (some ⟨b, 0, none⟩) => some (ptrD (some b), [])
  | .pointer none => some (ptrD none, [])
  | _ => none
def ptrV (o : Option Nat) : Value := .pointer (o.map fun b => ⟨b, 0, none⟩)
theorem ptrE_inv {v : Value} {o : Option Nat} {ps : List MemPlace} (h : ptrE v = some (ptrD o, ps)) : v = ptrV o := by
  unfold ptrE at h
  split at h
  · rename_i b
    simp only [Option.some.injEq, Prod.mk.injEq] at h
    cases o with
    | none => simp only [ptrD, DataW.lit.injEq, Lit.int.injEq, true_and] at h; omega
    | some c =>
      simp only [ptrD, DataW.lit.injEq, Lit.int.injEq, true_and] at h
      have : b = c := by omega
      rw [this]
      rfl
  · simp only [Option.some.injEq, Prod.mk.injEq] at h
    cases o with
    | none => rfl
    | some c => simp only [ptrD, DataW.lit.injEq, Lit.int.injEq, true_and] at h; omega
  · cases h
theorem ptrD_inj {a b : Option Nat} (h : ptrD a = ptrD b) : a = b := by
  cases a <;> cases b <;> simp only [ptrD, DataW.lit.injEq, Lit.int.injEq, true_and] at h <;> first | rfl | omega | (congr 1; omega)
abbrev kn (s : ByteArray) : Lit := .string s.data.toList
theorem kn_inj {s t : ByteArray} (h : kn s = kn t) : s = t := by
  simp only [Lit.string.injEq] at h
  cases s
  cases t
  simp only [ByteArray.mk.injEq]
  exact Array.toList_inj.1 h
theorem kn_ne {s t : ByteArray} (h : s ≠ t) : kn s ≠ kn t := fun e => h (kn_inj e)
theorem key9 (s : ByteArray) (h : s.size ≤ 64) : keyOf Try.prog 9 (.string s) = some (kn s) := Go.WideMaps.keyOf_string_mk Try.underlying9 (by unfold maxLen; omega)
theorem law9 : Keyed Try.prog 9 := string_keyed Try.underlying9
theorem zero64 (w : World) : (zeroValue 64).run Try.prog w = .ok (.pointer none) w := by kernel_rfl
theorem kn_key (s : ByteArray) : WideAt.IsKeyLit (kn s) := by trivial
/-- F with another answer at s. -/
def setF (F : ByteArray → Option Nat) (s : ByteArray) (o : Option Nat) : ByteArray → Option Nat := fun x => if x = s then o else F x
theorem setF_same (F : ByteArray → Option Nat) (s : ByteArray) (o : Option Nat) : setF F s o s = o := if_pos rfl
theorem setF_other (F : ByteArray → Option Nat) {s x : ByteArray} (o : Option Nat) (h : x ≠ s) : setF F s o x = F x := if_neg h
/-- The map in block mb: F tells where the file of a name lies. -/
def MapIs (w : World) (mb n : Nat) (F : ByteArray → Option Nat) : Prop :=
  ∃ D : DataW Unit, w.ownsMap Try.prog 9 ptrE mb n D ∧ (∀ s : ByteArray, D.atKey (kn s) (ptrD none) = ptrD (F s)) ∧ (∀ kl, Maps.has D kl = true → ∃ s, kl = kn s ∧ (F s).isSome = true) ∧ ∀ s, (F s).isSome = true → Maps.has D (kn s) = true
theorem MapIs.kept {w w' : World} {row : Option Nat} {mb n : Nat} {F : ByteArray → Option Nat} (h : MapIs w mb n F) (hg : w.grownBy w' row) (h2 : some mb ≠ row) : MapIs w' mb n F := by
  obtain ⟨D, hm, hd, hh, hi⟩ := h
  exact ⟨D, hm.kept hg h2, hd, hh, hi⟩
theorem MapIs.made (w : World) : MapIs (w.alloc (.map #[] 0)) w.heap.size 0 (fun _ => none) :=
  ⟨.map [], World.ownsMap_made w _ _ _, fun _ => rfl, fun kl h => by simp [Maps.has] at h, fun s h => by simp at h⟩
theorem MapIs.lt {w : World} {mb n : Nat} {F : ByteArray → Option Nat} (h : MapIs w mb n F) : mb < w.heap.size := by
  obtain ⟨D, hm, _⟩ := h
  exact hm.lt
theorem MapIs.look {w : World} {mb n : Nat} {F : ByteArray → Option Nat} (h : MapIs w mb n F) (s : ByteArray) (hs : s.size ≤ 64) :
    (Instr.lookup 57 (.map (some mb)) (.string s) false).run Try.prog w = .ok (ptrV (F s)) w := by
  obtain ⟨D, hm, hd, _⟩ := h
  obtain ⟨v, ps, hrun, hv⟩ := hm.lookup law9 Try.underlying57 (zero64 w) (show ptrE (.pointer none) = some (ptrD none, []) from rfl) (key9 s hs)
  rw [hd s] at hv
  rw [hrun, ptrE_inv hv]
theorem MapIs.put {w : World} {mb n : Nat} {F : ByteArray → Option Nat} (h : MapIs w mb n F) (s : ByteArray) (hs : s.size ≤ 64) (hn : n ≤ 1048576) (b : Nat) :
    ∃ w', (Instr.mapUpdate 57 (.map (some mb)) (.string s) (.pointer (some ⟨b, 0, none⟩))).run Try.prog w = .ok () w' ∧ MapIs w' mb (n + 1) (setF F s (some b)) ∧ w.grownBy w' (some mb) := by
  obtain ⟨D, hm, hd, hh, hi⟩ := h
  obtain ⟨w', hrun, hm', hg⟩ := hm.update law9 Try.underlying57 (by unfold maxLen; omega) (key9 s hs) (show ptrE (.pointer (some ⟨b, 0, none⟩)) = some (ptrD (some b), []) from rfl)
  refine ⟨w', hrun, ⟨_, hm', fun x => ?_, fun kl hk => ?_, fun x hx => ?_⟩, hg⟩
  · by_cases e : x = s
    · subst e
      rw [atKey_put_same hm.isMap (kn_key x), setF_same]
    · rw [atKey_put_other (kn_ne e), hd x, setF_other F _ e]
  · by_cases e : kl = kn s
    · exact ⟨s, e, by rw [setF_same]; rfl⟩
    · rw [has_put_other e] at hk
      obtain ⟨x, rfl, hx⟩ := hh kl hk
      exact ⟨x, rfl, by rw [setF_other F _ (fun e' => e (by rw [e']))]; exact hx⟩
  · by_cases e : x = s
    · subst e
      exact has_put_same hm.isMap (kn_key x) _
    · rw [has_put_other (kn_ne e)]
      rw [setF_other F _ e] at hx
      exact hi x hx
theorem MapIs.del {w : World} {mb n : Nat} {F : ByteArray → Option Nat} (h : MapIs w mb n F) (s : ByteArray) (hs : s.size ≤ 64) (ty : TypeId) :
    ∃ w', (Builtin.delete_ #[57, 9] ty #[.map (some mb), .string s]).run Try.prog w = .ok (.tuple #[]) w' ∧ MapIs w' mb n (setF F s none) ∧ w.grownBy w' (some mb) := by
  obtain ⟨D, hm, hd, hh, hi⟩ := h
  obtain ⟨w', hrun, hm', ht⟩ := hm.drop law9 Try.underlying57 (key9 s hs) ty
  refine ⟨w', hrun, ⟨_, hm', fun x => ?_, fun kl hk => ?_, fun x hx => ?_⟩, ht.grown⟩
  · by_cases e : x = s
    · subst e
      rw [atKey_del_same, setF_same]
    · rw [atKey_del_other (kn_ne e), hd x, setF_other F _ e]
  · by_cases e : kl = kn s
    · subst e
      rw [has_del_same] at hk
      cases hk
    · rw [has_del_other e] at hk
      obtain ⟨x, rfl, hx⟩ := hh kl hk
      exact ⟨x, rfl, by rw [setF_other F _ (fun e' => e (by rw [e']))]; exact hx⟩
  · by_cases e : x = s
    · subst e
      rw [setF_same] at hx
      cases hx
    · rw [has_del_other (kn_ne e)]
      rw [setF_other F _ e] at hx
      exact hi x hx
theorem MapIs.len {w : World} {mb n : Nat} {F : ByteArray → Option Nat} (h : MapIs w mb n F) (ty : TypeId) : ∃ m : Nat, m ≤ n ∧ (Builtin.len_ #[57] ty #[.map (some mb)]).run Try.prog w = .ok (.int .i64 m) w := by
  obtain ⟨D, hm, _⟩ := h
  exact ⟨_, hm.size_le, hm.len Try.underlying57 ty⟩
end Go.Proofs.Ytdnkdopjlobklaa
