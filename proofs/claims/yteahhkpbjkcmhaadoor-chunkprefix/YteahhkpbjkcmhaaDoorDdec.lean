/- Package chunk's Decode. -/
import Derived.Test.YteahhkpbjkcmhaaDoorDread
import Derived.Test.YteahhkpbjkcmhaaDoorDord
import Derived.Test.YteahhkpbjkcmhaaDoorRdec
namespace Go.Proofs.YteahhkpbjkcmhaaDoor
open Go.RowKit
set_option linter.unusedVariables false

set_option maxRecDepth 100000 in
set_option maxHeartbeats 1000000 in
theorem f_decode (a : Option Addr) (zs : List Int) (L cap : Nat) (w : World) (hr : Rd w a zs) (hL : zs.length = L) (hz : (L : Int) ≤ 140737488355000) (hB : Bf w) :
    Calls Tryd.prog 19 #[.slice a L cap] w fun e w' => ∃ vP ps c, e = .returned (.tuple #[vP, .int .i64 c]) ∧ SOwn pntE 41 w' w.heap.size vP ps.length ps ∧ w.grownBy w' none ∧ DecAns zs c ps := by
  have HC : Hid (Calls Tryd.prog 33 #[.slice a L cap] w fun e w' => ∃ vP ps ok, e = .returned (.tuple #[vP, .bool ok]) ∧ SOwn pntE 41 w' w.heap.size vP ps.length ps ∧ (ok = true → ps.length ≤ 8191) ∧ decR zs = (if ok = true ∧ okTimes ps = true then some ps else none) ∧ w.grownBy w' none) := by subst hL; exact d_read a zs cap w hr hz hB
  clear hr hL hz hB
  go_enter Tryd.func19, Tryd.ntmps19
  go_wp2_with fail
  refine HC.out.mono ?_
  rintro e w1 ⟨vP, ps, ok, rfl, hown, hlen, hdec, hg⟩
  have HOW : Hid (SOwn pntE 41 w1 w.heap.size vP ps.length ps) := hown
  have HLE : Hid (ok = true → ps.length ≤ 8191) := hlen
  have HD : Hid (decR zs = (if ok = true ∧ okTimes ps = true then some ps else none)) := hdec
  have HG : Hid (w.grownBy w1 none) := hg
  clear hown hlen hdec hg HC
  cases ok with
  | false =>
    have HN : Hid (decR zs = none) := by show _ = _; rw [HD.out, if_neg (by simp)]
    clear HD HLE
    go_wp2
    go_ret2
    exact ⟨_, [], 52, rfl, SOwn.nil 41 _ _, HG.out, DecAns.none HN.out⟩
  | true =>
    have h8 : ps.length ≤ 8191 := HLE.out rfl
    obtain ⟨a1, c1, rfl⟩ : ∃ a1 c1, vP = .slice a1 ps.length c1 := by
      rcases HOW.out.2 with ⟨h', h0⟩ | ⟨g, cap, cur, h', _⟩
      · have : ps.length = 0 := h0
        exact ⟨none, 0, by rw [h', this]⟩
      · exact ⟨_, _, h'⟩
    have HI : Hid (Calls Tryd.prog 29 #[.slice a1 ps.length c1] w1 fun e w' => e = .returned (.bool (okTimes ps)) ∧ w1.grownBy w' none) := d_inOrder a1 ps ps.length c1 w1 HOW.out.rd rfl (by omega)
    clear h8 HLE
    go_wp2_with fail
    refine HI.out.mono ?_
    rintro e w2 ⟨rfl, hg2⟩
    have HG2 : Hid (w.grownBy w2 none) := HG.out.trans hg2
    have HOW2 : Hid (SOwn pntE 41 w2 w.heap.size (.slice a1 ps.length c1) ps.length ps) := SOwn.kept HOW.out hg2 (Classical.em _)
    clear hg2 HI HOW HG
    cases hok : okTimes ps with
    | false =>
      have HN : Hid (decR zs = none) := by show _ = _; rw [HD.out, if_neg (by simp [hok])]
      clear HD hok
      go_wp2
      go_ret2
      exact ⟨_, [], 52, rfl, SOwn.nil 41 _ _, HG2.out, DecAns.none HN.out⟩
    | true =>
      have HN : Hid (decR zs = some ps) := by show _ = _; rw [HD.out, if_pos (by simp [hok])]
      clear HD hok
      go_wp2
      go_ret2
      exact ⟨_, ps, 0, rfl, HOW2.out, HG2.out, DecAns.some HN.out⟩
end Go.Proofs.YteahhkpbjkcmhaaDoor
