/-
  The law that holds the program's GoodGraph against its model's: at every graph the call returns true, and nothing that was there is written. No condition.
-/
import Derived.Test.YtakhggnbhjoojaaGnf
namespace Go.Proofs.Ytakhggnbhjoojaa
open Go.RowKit
set_option linter.unusedVariables false

theorem TGrf.sl {lo hi : Nat} {w : World} {p r c : Value} {xs : List Nd} {rs cs : List Int} (h : TGrf p r c xs rs cs lo hi w) : ∃ ap cp ar cr ac cc, p = .slice ap xs.length cp ∧ r = .slice ar rs.length cr ∧ c = .slice ac cs.length cc := by
  obtain ⟨us, h⟩ := h
  obtain ⟨ap, cp, e1⟩ := h.slice
  obtain ⟨ar, cr, e2⟩ := row_slice (h.rowE 0 (by simp))
  obtain ⟨ac, cc, e3⟩ := row_slice (h.rowE 1 (by simp))
  exact ⟨ap, cp, ar, cr, ac, cc, e1, e2, e3⟩

set_option maxRecDepth 100000 in
set_option maxHeartbeats 1600000 in
theorem fnExactGoodGraph_walk (p r c : Value) (m : List Nd) (rs cs : List Int) (w : World) (h : RdG w p r c m rs cs) :
    Calls Try.prog 4 #[.agg #[p, r, c]] w fun e w' => e = .returned (.bool true) ∧ Below w.heap.size w w' := by
  have R := hide h
  clear h
  obtain ⟨g, hg⟩ : ∃ g, decide (goodG m rs cs) = g := ⟨_, rfl⟩
  have HG := hide hg
  clear hg
  have A0 := hide ((Hand.start w).box #[p, r, c] 40)
  go_enter Try.func4, Try.ntmps4
  go_wp2_with fail
  refine (szGraph_calls p r c m rs cs _ (R.out.below A0.out.below)).mono ?_
  rintro e w1 ⟨⟨r1, rfl, hr⟩, b1⟩
  have A1 := hide (A0.out.step b1)
  clear b1 A0
  by_cases r0 : r1 < 0
  · go_wp2
    go_ret
    exact ⟨rfl, A1.out.below⟩
  have SZ := hide (hr.resolve_left r0).2
  clear hr
  obtain ⟨c0, c1, c2⟩ := (A1.out.atBox 0 rfl).c3
  go_wp2_with fail
  refine (toGraph_calls p r c m rs cs _ (R.out.below A1.out.below) SZ.out).mono ?_
  rintro e w2 ⟨p1, q1, k1, rfl, d1, b1⟩
  have A2 := hide (A1.out.add b1 (TGrf.st _ _ _ _ _ _) d1)
  have D1 := hide d1.rd
  clear b1 A1 d1 c0 c1 c2
  go_wp2_with fail
  refine (sGoodGraph_calls p1 q1 k1 m rs cs _ D1.out).mono ?_
  rw [HG.out]
  rintro e w3 ⟨rfl, b1⟩
  have A3 := hide (A2.out.step b1)
  clear b1 A2 D1
  obtain ⟨c0, c1, c2⟩ := (A3.out.atBox 1 rfl).c3
  go_wp2_with fail
  refine (toGraph_calls p r c m rs cs _ (R.out.below A3.out.below) SZ.out).mono ?_
  rintro e w4 ⟨p2, q2, k2, rfl, d1, b1⟩
  obtain ⟨ap2, cp2, ah2, ch2, ab2, cb2, hp2, hh2, hb2⟩ := d1.sl
  have A4 := hide ((A3.out.add b1 (TGrf.st _ _ _ _ _ _) d1).box #[p2, q2, k2] 27)
  clear b1 A3 d1 c0 c1 c2
  subst hp2 hh2 hb2
  obtain ⟨lo2, hi2, d2⟩ := A4.out.get 1 rfl
  have D2 := hide (TGrf.rd d2)
  clear d2
  go_wp2_with fail
  refine (goodGraph_calls _ _ _ m rs cs _ D2.out).mono ?_
  rw [HG.out]
  rintro e w5 ⟨rfl, b1⟩
  have A5 := hide (A4.out.step b1)
  have D5 := hide (D2.out.below b1)
  clear b1 A4 D2
  go_wp2
  have F : Hid (∀ w', Below w5.heap.size w5 w' → (w'.cell? ⟨w.heap.size, 0, none⟩ = some p ∧ w'.cell? ⟨w.heap.size, 1, none⟩ = some r ∧ w'.cell? ⟨w.heap.size, 2, none⟩ = some c) ∧ (w'.cell? ⟨w4.heap.size, 0, none⟩ = some (.slice ap2 m.length cp2) ∧ w'.cell? ⟨w4.heap.size, 1, none⟩ = some (.slice ah2 rs.length ch2) ∧ w'.cell? ⟨w4.heap.size, 2, none⟩ = some (.slice ab2 cs.length cb2))) :=
    fun w' hb => ⟨((A5.out.step hb).atBox 3 rfl).c3, ((A5.out.step hb).atBox 0 rfl).c3⟩
  go_region_held3 (fun w' => (w'.cell? ⟨w.heap.size, 0, none⟩ = some p ∧ w'.cell? ⟨w.heap.size, 1, none⟩ = some r ∧ w'.cell? ⟨w.heap.size, 2, none⟩ = some c) ∧ (w'.cell? ⟨w4.heap.size, 0, none⟩ = some (.slice ap2 m.length cp2) ∧ w'.cell? ⟨w4.heap.size, 1, none⟩ = some (.slice ah2 rs.length ch2) ∧ w'.cell? ⟨w4.heap.size, 2, none⟩ = some (.slice ab2 cs.length cb2))) (first | exact F.out _ (Below.refl _ _).drew | exact F.out _ B2.out | exact F.out _ B1.out)
    ((first | (go_at_call 19; refine (eqGraph_same _ _ _ _ _ _ m rs cs _ (D5.out.below B1.out) D6.out).mono ?_; rintro e' w7 ⟨rfl, b7⟩; have B2 := hide (B1.out.trans (b7.mono B1.out.size)); clear b7) | (go_at_call 28; refine (toGraph_calls p r c m rs cs _ (R.out.below (A5.out.step (Below.refl _ _).drew).below) SZ.out).mono ?_; rintro e' w6 ⟨p3, h3, b3, rfl, d6, b6⟩; have D6 := hide d6.rd; have B1 := hide ((Below.refl w5.heap.size w5).drew.trans b6); clear b6 d6)))
  go_wp2
  go_ret
  exact ⟨rfl, (A5.out.step B2.out).below⟩
end Go.Proofs.Ytakhggnbhjoojaa
