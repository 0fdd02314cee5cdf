/- Package head: Select, of any matchers. -/
import Derived.Test.YtpabbmiibehfjaaGreatDoorIt
import Derived.Test.YtpabbmiibehfjaaGreatDoorGv
namespace Go.Proofs.YtpabbmiibehfjaaGreatDoor
open Go.RowKit Go.Maps
set_option linter.unusedVariables false
set_option maxRecDepth 20000

theorem filter_ent (say : List Lab → Bool) (es : List Ent) : (es.map entS).filter (fun s => say s.1) = (es.filter fun e => say e.ls).map entS := by
  rw [List.filter_map]
  rfl
theorem sel_eq {say : List Lab → Bool} {es es' : List Ent} (h : es'.filter (fun e => say e.ls) = es.filter (fun e => say e.ls)) (f t : Int) : selS say f t (es'.map entS) = selS say f t (es.map entS) := by
  unfold selS
  rw [filter_ent, filter_ent, h]
/-- Matchers that the contracts take. -/
structure MatOk (ms : List Mt.Mat) : Prop where
  len : ms.length ≤ 3518437208882
  key : ∀ m ∈ ms, okK (m.2.1, m.2.2)
  val : ∀ m ∈ ms, m.2.2.size ≤ 2147483648
theorem h_selectM (base hb lim N P : Nat) (S : List Ser) (B : Nat → Prop) (a : Option Addr) (ms : List Mt.Mat) (c : Nat) (f t : Int) (w : World) (h : HeadAt w base hb lim N P S B) (hP : P ≤ 8796093022206) (hr : SRd Mt.matE w a ms) (hms : MatOk ms) (hm : Mt.Mx w) :
    Calls Tryz.prog 12 #[.pointer (some ⟨hb, 0, none⟩), .slice a ms.length c, .int .i64 f, .int .i64 t] w fun e w' => ∃ v, e = .returned v ∧ SerOut w' (fun k => w.heap.size ≤ k) v (selS (Mt.saysR ms) f t S) ∧ w.grownBy w' none := by
  obtain ⟨m1, m2, n, es, h1, h2, h3, h4, h5, h6, h7⟩ := h
  have hel : es.length ≤ 1024 := by rw [← h3, List.length_map] at h5; omega
  refine h_selectG base hb lim N P S B m1 m2 n es _ (Mt.saysR ms) f t w h1 h3 h4 h5 h6 h7 hP ?_ ?_
  · refine (h_likelyM base hb m1 m2 lim n es B a ms c w h1 hr hms.len hel hms.key).mono ?_
    rintro e w' ⟨a', c', M, rfl, es', hk⟩
    have hl := hk.len
    subst hl
    exact ⟨a', c', es', rfl, hk.rd, hk.sub, hk.le, by rw [← h3]; exact sel_eq hk.eq f t, hk.gr⟩
  · intro w1 e hg he
    have hck := h1.ok e he
    have hin := (check_iff e.ls).1 hck
    exact Mt.f_says a e.la ms e.ls _ _ c e.lc _ w1 (hr.grown hg (by simp)) (((h1.ent e he).kept hg).lab.rd) rfl rfl (by have := hms.len; omega) (by have := hin.1; omega) hms.val (fun p hp => by have := (ok_size (hin.2.1 p hp)).2.2; omega) (hm.grown hg) rfl
/-- Select, by a head that the law made. -/
theorem selectM {w wr : World} {hb lim N P : Nat} {S : List Ser} {B : Nat → Prop} {a : Option Addr} {ms : List Mt.Mat} {c : Nat} (f t : Int) (h : RunAt w wr hb lim N P S B) (hP : P ≤ 8796093022206) (hr : SRd Mt.matE w a ms) (hms : MatOk ms) (hm : Mt.Mx w) :
    Calls Tryz.prog 12 #[.pointer (some ⟨hb, 0, none⟩), .slice a ms.length c, .int .i64 f, .int .i64 t] wr fun e w' => ∃ a' c', e = .returned (.slice a' (selS (Mt.saysR ms) f t S).length c') ∧ SerOut w' (fun k => ¬ B k) (.slice a' (selS (Mt.saysR ms) f t S).length c') (selS (Mt.saysR ms) f t S) ∧ RunAt w w' hb lim N P S B ∧ wr.grownBy w' none := by
  refine (h_selectM w.heap.size hb lim N P S B a ms c f t wr h.head hP (hr.grown h.grown (by simp)) hms (hm.grown h.grown)).mono ?_
  rintro e w' ⟨v, rfl, ho, hg⟩
  have ho' : SerOut w' (fun k => ¬ B k) v (selS (Mt.saysR ms) f t S) := ho.stay (fun k _ _ => rfl) (fun k hk hB => by have := (h.head.blocks k hB).2; omega)
  obtain ⟨a', c', raw, rfl, _⟩ := ho.read
  exact ⟨a', c', rfl, ho', h.grew hg, hg⟩
end Go.Proofs.YtpabbmiibehfjaaGreatDoor
