/- Package parse: call, aggregation. -/
import Derived.Test.YtnimdngiejcljaaQa
namespace Go.Proofs.Ytnimdngiejcljaa
open Go.RowKit
set_option linter.unusedVariables false
set_option linter.unusedSimpArgs false
set_option maxRecDepth 20000

abbrev nilS : Sl := (none, 0, 0)
/-- Behind brackets, a node in a box is told. -/
theorem tell_len {K : Tk} {k k' : Nat} {L Q : List Row} {a : List Nd} {ts r : List Tok} (hL : L.length ≤ k) (ha : Ahead K k' r) (hq : Q.map (·.1) = a) (h : a.length + r.length ≤ ts.length) (ha0 : Ahead K k ts) : (L ++ Q).length ≤ k' := by
  have h1 := ha.len
  have h2 := ha0.len
  have h3 : Q.length = a.length := by rw [← hq, List.length_map]
  rw [List.length_append]
  omega
theorem few_ok {x : Rs (List Nd)} {n : Nat} {a : List Nd} {r : List Tok} (h : x.few n) (e : x = .ok a r) : a.length + r.length ≤ n := by rw [e] at h; exact h
theorem bind_out {α β : Type} {x : Rs α} {f : α → List Tok → Rs β} (h : x.bind f ≠ .out) : x ≠ .out := fun e => h (by rw [e]; rfl)
set_option maxHeartbeats 2000000 in
theorem f_call {b p : Nat} {K : Tk} (X : Nat → List Tok → Rs (List Nd)) (hX : LvOk b p K 36 X) (hF : ∀ n us, us.length < 5000 → (X n us).few us.length) {nest k : Nat} {v : Value} {L : List Row} {ts : List Tok} {w : World} (h : RdAt w b p K k (nest : Int) v L) (ha : Ahead K k ts) (hL : L.length ≤ k) (hn : nest ≤ 64) (h0 : numIn funcsR (hd ts) ≠ 0) (hne : brackR nest X ts.tail ≠ .out) :
    Calls Try.prog 76 #[.pointer (some ⟨p, 0, none⟩)] w fun e w' => PQ b p K k (nest : Int) v L ((brackR nest X ts.tail).bind fun a r => .ok (a ++ [callN (numIn funcsR (hd ts))]) r) w e w' := by
  have H := hid h
  have HA := hid ha
  have HX := hid hX
  have HL := hid hL
  have HNE := hid hne
  have HA2 := hid (ha.next (numIn_next h0))
  have hk := ha.lt
  have hs := ha.small
  have HFW := hid (brackR_few (nest := nest) (ts := ts.tail) hF (by have := take_ahead HA2.out; omega))
  obtain ⟨N, eN⟩ : ∃ N, numIn funcsR (hd ts) = N := ⟨_, rfl⟩
  have EN := hid eN
  rw [eN]
  clear h ha hX hL hne h0 hF eN
  go_enter Try.func76, Try.ntmps76
  go_wp2_with fail
  refine (f_funcs _).mono ?_
  rintro e w1 ⟨a1, c1, rfl, hr1, g1⟩
  have H1 := hid (H.out.grown g1)
  have HR1 := hid hr1
  have G1 := hid g1
  clear hr1 g1
  go_wp2_with fail
  refine (f_here H1.out HA.out).mono ?_
  rintro e w2 ⟨rfl, g2⟩
  have H2 := hid (H1.out.grown g2)
  have HR2 := hid (HR1.out.grown g2 (by simp))
  have G2 : Hid (w.grownBy w2 none) := G1.out.trans g2
  clear g2 G1 H1 HR1
  go_wp2_with fail
  refine (f_numIn a1 c1 funcsR (hd ts) w2 HR2.out (by decide)).mono ?_
  rintro e w3 ⟨rfl, g3⟩
  rw [EN.out]
  have G3 : Hid (w.grownBy w3 none) := G2.out.trans g3
  have HN1 := hid (NAt.made H.out (H2.out.grown g3) (.of G3.out) (callN N) nilS nilS (SOwn.nil _ _ _) (SOwn.nil _ _ _))
  have c1' := HN1.out.rd.cells.2.1
  have u1 := HN1.out.rd.free 1
  have hst := HN1.out.rd.step (World.grownBy.refl _ _)
  have HN2 := hid (HN1.out.step hst.1 hst.2)
  have HB := hid (f_brackets X HX.out HN2.out.rd HA2.out (by have := HL.out; omega) hn HNE.out)
  obtain ⟨NB, eNB⟩ : ∃ NB, NB = w3.heap.size := ⟨_, rfl⟩
  have hpb : p ≠ w3.heap.size := by have := H.out.lt; have := G3.out.size; omega
  clear g3 hst G2 H2 HR2
  unfold callN ndA slV at c1' u1 HN2 HB
  go_wp2_with fail
  refine HB.out.mono ?_
  intro e w5 h5
  cases hx : brackR nest X ts.tail with
  | out => exact absurd hx HNE.out
  | bad q c =>
    rw [hx] at h5
    obtain ⟨rfl, f5⟩ := h5
    have HXE := hid hx
    have F5 := hid (HN2.out.adv.fr.trans f5 (fun j hj e => by
      rcases e with e | e
      · exact .inl e
      · rcases HN2.out.adv.new j e with e2 | e2
        · exact .inr e2
        · omega))
    clear hx f5 HB
    go_wp2
    refine ⟨rfl, ?_⟩
    rw [HXE.out, bind_bad]
    exact ⟨rfl, F5.out⟩
  | ok a r =>
    rw [hx] at h5
    obtain ⟨rfl, v5, k5, Q5, h5, hq5, ha5, hk5, a5⟩ := h5
    have HXE := hid hx
    have HN5 := hid (NAt.go (x := callN N) (m := nilS) (n := nilS) HN2.out h5 a5)
    have HQ5 := hid hq5
    have HA5 := hid ha5
    have hlen : (L ++ Q5).length ≤ k5 := tell_len (ts := ts.tail) (k := k + 1) (by have := HL.out; omega) ha5 hq5 (few_mono HFW.out (by omega) |> fun hf => few_ok hf hx) HA2.out
    have hbig : (L ++ Q5).length ≤ 1000000 := by have := HA5.out.len; have := HA5.out.small; omega
    have HT := hid (f_tellN HN5.out hbig)
    obtain ⟨n0, n1, n2, n3, n4, n5, n6, n7, n8, n9⟩ := HN5.out.cells
    unfold callN ndA slV at *
    clear hx h5 hq5 ha5 a5 HB c1' u1 hlen hbig
    go_wp2_with fail
    refine HT.out.mono ?_
    rintro e w6 ⟨rfl, v6, h6, a6⟩
    have H6 := hid h6
    have A6 := hid a6
    clear h6 a6 HT n0 n1 n2 n3 n4 n5 n6 n7 n8 n9
    go_wp2
    go_end0
    rw [HXE.out, bind_ok]
    refine ⟨rfl, v6, k5, Q5 ++ [_], by rw [← List.append_assoc]; exact H6.out, app_one HQ5.out, HA5.out, by omega, A6.out⟩
end Go.Proofs.Ytnimdngiejcljaa
