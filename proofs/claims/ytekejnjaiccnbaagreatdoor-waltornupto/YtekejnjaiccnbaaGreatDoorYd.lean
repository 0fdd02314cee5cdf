/- Open, where the last file is torn. -/
import Derived.Test.YtekejnjaiccnbaaGreatDoorYc
namespace Go.Proofs.YtekejnjaiccnbaaGreatDoor
open Go.RowKit Go.Maps Go.Sort
set_option linter.unusedVariables false
set_option maxRecDepth 20000

theorem putX_calm (x : DSt) (h : x.Calm) (hw : x.wn ≤ 999999980) (V : Cont) : ({ x with wn := x.wn + 3, V := V } : DSt).Calm := by
  obtain ⟨h1, h2, h3⟩ := h.ok
  exact ⟨h.on, h.free, ⟨by dsimp only; omega, h2, h3⟩⟩
theorem torn_log {x : DSt} {dir : ByteArray} {K : Kp} {Ls LL : Sg} {kl : Nat} {rl : List (List Int)} {tl : List Int} {sl : Nat} (h : TornLog x.V dir K Ls LL kl rl tl sl) (hc : x.Calm) (hw : x.wn ≤ 999999980) : Log (putX x dir (segN dir kl) (logB frameR rl)).V dir K LL ∧ (putX x dir (segN dir kl) (logB frameR rl)).Calm ∧ (putX x dir (segN dir kl) (logB frameR rl)).wn = x.wn + 3 := by
  rw [putX_eq x hc hw dir _ _ h.noNew]
  refine ⟨?_, putX_calm x hc hw _, rfl⟩
  have e0 : setV x.V (newN dir) none = x.V := by
    funext s
    by_cases e : s = newN dir
    · rw [e, setV_same, h.noNew]
    · exact setV_other _ _ e
  show Log (setV (setV x.V (newN dir) none) (segN dir kl) (some (logB frameR rl, (logB frameR rl).length))) dir K LL
  rw [e0]
  have hne : ∀ q ∈ Ls, q.1 ≠ kl := by
    intro q hq
    have h1 := h.folder.segr.1
    rw [h.all, List.map_append, List.pairwise_append] at h1
    have := h1.2.2 q.1 (List.mem_map.2 ⟨q, hq, rfl⟩) kl (by simp)
    omega
  refine ⟨⟨h.folder.cpr, h.folder.segr, fun s => ?_⟩, ?_, fun q hq => ?_, h.above, h.big⟩
  · rw [← h.folder.mem s]
    by_cases e : s = segN dir kl
    · rw [e, setV_same, h.last]
      simp
    · rw [setV_other _ _ e]
  · have hcp := h.cp
    cases K with
    | none => exact hcp
    | some q =>
      obtain ⟨h1, ⟨syn, h2⟩, h3⟩ := hcp
      exact ⟨h1, ⟨syn, by rw [setV_other _ _ (cp_ne_seg dir q.1 kl)]; exact h2⟩, h3⟩
  · rw [h.all] at hq
    rcases List.mem_append.1 hq with hq | hq
    · exact Whole.other h.whole h.num _ hne q hq
    · simp only [List.mem_singleton] at hq
      subst hq
      exact ⟨⟨_, setV_same _ _ _⟩, h.recs.len, h.num⟩
theorem openW_kept (w5 : World) (p : Nat) (v : Sl) : Kept w5 (openW w5 p v) (fun k => k = p + 2 ∨ k = p + 3) := by
  have g1 : w5.grownBy (w5.setCell ⟨p + 2, 0, none⟩ (slV v)) (some (p + 2)) := gb_set rfl
  have g2 : (w5.setCell ⟨p + 2, 0, none⟩ (slV v)).grownBy (openW w5 p v) (some (p + 3)) := gb_drew (gb_set rfl)
  exact (Kept.of g1 (X := fun k => k = p + 2 ∨ k = p + 3) (fun k hk => by cases hk; exact .inl rfl)).trans (Kept.of g2 (X := fun k => k = p + 2 ∨ k = p + 3) (fun k hk => by cases hk; exact .inr rfl)) (fun k _ h => h)
/-- Open, of a folder with something torn. -/
theorem s_openT {W w : World} {d mb n : Nat} {x : DSt} {dir : ByteArray} {K : Kp} {Ls LL : Sg} {kl : Nat} {rl : List (List Int)} {tl : List Int} {sl : Nat} {B : Nat → Prop} (hd : DS w W.heap.size d mb n x B) (hT : TornLog x.V dir K Ls LL kl rl tl sl) (hc : x.Calm) (hfrom : W.grownBy w none) (hlow : ∀ k, B k → W.heap.size ≤ k) (hltB : ∀ k, B k → k < w.heap.size) (ht : Tab W) (hdir : dirB dir = true) (hw : x.wn ≤ 999999980) (hn : n < 1048576) (htl : tl ≠ []) (hrl : rl ≠ []) (hlb : (logB frameR rl).length ≤ 4194304) (hsz : (cpRecs K ++ recsOf LL).length ≤ 4194304) (hln : LL.length ≤ 4194304) :
    Calls Tryz.prog 13 #[.pointer (some ⟨d, 0, none⟩), .string dir] w fun e w' => ∃ (p : Nat) (v : Sl) (m lo n' : Nat) (x' : DSt) (B' : Nat → Prop), e = .returned (.tuple #[.pointer (some ⟨p, 0, none⟩), slV v, .int .i64 0]) ∧ De W w' d mb n' x' dir K LL B' ∧ RecsLo lo w' (slV v) m (cpRecs K ++ recsOf LL) ∧ n' ≤ n + 2 := by
  refine (w_openG d dir w hdir (fun W4 p v w5 => TornMend W.heap.size d mb n (putX x dir (segN dir kl) (logB frameR rl)) dir K LL B W4 p v w5) (fun W4 p hMI => ?_)).mono ?_
  · exact w_mendT W.heap.size d mb n dir x B K Ls LL kl rl tl sl w W4 p hdir (ht.grown (hfrom.trans hMI.grown)) hMI (DV.kept hd hMI.grown) (fun k hk => Nat.lt_of_lt_of_le (hltB k hk) hMI.new_) hc hw hn hT htl hrl hlb hsz hln (Nat.le_trans hfrom.size hMI.grown.size)
  · rintro e w' ⟨W4, p, v, w5, hMI, ⟨m, n', A, B', lo, h1, h2, h3, h4, h5, h6, h7⟩, rfl, rfl⟩
    have hk := openW_kept w5 p v
    obtain ⟨t1, t2, t3⟩ := torn_log hT hc hw
    have hBp : ∀ k, B' k → ¬ (k = p + 2 ∨ k = p + 3) := fun k hb hX => by
      have hs := hMI.size
      have := hltB k (h6 k (by omega) hb)
      have := hMI.new_
      omega
    obtain ⟨ts, r1, r2, r3, r4⟩ := h1
    have hs := hMI.size
    refine ⟨p, v, m, lo, n', _, B', rfl, ⟨h3.disk.others hk hBp, t1, t2, ?_, ?_, fun k hb => Nat.lt_of_lt_of_le (h3.ltB k hb) hk.size, ht⟩, ⟨ts, sown_keptK r1 hk (fun k hkb hX => by have := (r1.block k hkb).1; omega), r2.keptK hk (fun k hkl _ hX => by omega), r3, r4⟩, h2⟩
    · have g4 := hfrom.trans hMI.grown
      refine ⟨hk.os.trans (h4.os.trans g4.os), hk.tape.trans (h4.tape.trans g4.tape), hk.output.trans (h4.output.trans g4.output), Nat.le_trans g4.size (Nat.le_trans h4.size hk.size), fun k hkl _ => ?_⟩
      have hkp : k < p := Nat.lt_of_lt_of_le hkl (Nat.le_trans hfrom.size hMI.new_)
      rw [hk.block k (by have := h4.size; omega) (by omega), h4.block k (by omega) (fun hX => hX.elim (fun e => by omega) (fun hb => by have := hlow k hb; omega))]
      exact g4.block k hkl (by simp)
    · intro k hb
      rcases Nat.lt_or_ge k W4.heap.size with hl | hl
      · exact hlow k (h6 k hl hb)
      · exact Nat.le_trans (Nat.le_trans hfrom.size hMI.grown.size) hl
end Go.Proofs.YtekejnjaiccnbaaGreatDoor
