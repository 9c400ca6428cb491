/-
  The law that holds the program's GetIn against its model's: at every pool, number of a version and key the call returns true, and nothing that was there is written. No condition.
-/
import Derived.Test.YthmijjcddjlebaaPld
namespace Go.Proofs.Ythmijjcddjlebaa
open Go.RowKit
set_option linter.unusedVariables false

set_option maxRecDepth 100000 in
set_option maxHeartbeats 3200000 in
theorem fnExactGetIn_walk (p r : Value) (m : List Nd) (rs : List Int) (x : Int) (k : Int) (w : World) (h : RdP w p r m rs) :
    Calls Try.prog 6 #[.agg #[p, r], .int .i64 x, .int .i64 k] w fun e w' => e = .returned (.bool true) ∧ Below w.heap.size w w' := by
  have R := hide h
  clear h
  obtain ⟨ok, hok⟩ := bol_of (thP m rs x ∧ keyOk k)
  obtain ⟨y, hy⟩ : ∃ y, y = if ok = true then getF m rs x.toNat k.toNat else 0 := ⟨_, rfl⟩
  have C1 := hide (fun V p r h => sGetIn_calls p r m rs x k ok y V h hok hy)
  have C2 := hide (fun V p r h => getIn_calls p r m rs x k ok y V h hok hy)
  clear hok hy
  have A0 := hide ((Hand.start w).box #[p, r] 50)
  go_enter Try.func6, Try.ntmps6
  go_wp2_with fail
  refine (szPool_calls p r m rs _ (R.out.below A0.out.below)).mono ?_
  rintro e w1 ⟨⟨r1, rfl, hr⟩, q⟩
  have A1 := hide (A0.out.step q)
  clear A0 q
  by_cases r0 : r1 < 0
  · go_wp2
    go_ret
    exact ⟨rfl, A1.out.below⟩
  have SZ := hide (hr.resolve_left r0).2
  clear hr
  obtain ⟨caP0, caP1⟩ := (A1.out.atBox 0 rfl).c2
  go_wp2_with fail
  refine (toPool_calls p r m rs _ (R.out.below A1.out.below) SZ.out).mono ?_
  rintro e w2 ⟨pX, rX, rfl, d, q⟩
  obtain ⟨apX, cpX, arX, crX, rfl, rfl⟩ := d.sls
  have ltX := q.size
  (try simp only [World.size_alloc] at ltX)
  have A2 := hide (A1.out.add q (TPol.st _ _ _ _) d)
  clear A1 caP0 caP1 q d
  obtain ⟨loX, hiX, dX⟩ := A2.out.get 0 rfl
  have DX := hide (TPol.rd dX)
  clear dX
  go_wp2_with fail
  refine (C1.out _ _ _ DX.out).mono ?_
  rintro e w3 ⟨rfl, q⟩
  have A3 := hide (A2.out.step q)
  clear A2 DX loX hiX q
  obtain ⟨caP0, caP1⟩ := (A3.out.atBox 1 rfl).c2
  go_wp2_with fail
  refine (toPool_calls p r m rs _ (R.out.below A3.out.below) SZ.out).mono ?_
  rintro e w4 ⟨px, rx, rfl, d, q⟩
  obtain ⟨apx, cpx, arx, crx, rfl, rfl⟩ := d.sls
  have ltx := q.size
  (try simp only [World.size_alloc] at ltx)
  have A4 := hide ((A3.out.add q (TPol.st _ _ _ _) d).box #[.slice apx m.length cpx, .slice arx rs.length crx] 43)
  clear A3 caP0 caP1 q d
  obtain ⟨cbx0, cbx1⟩ := (A4.out.atBox 0 rfl).c2
  obtain ⟨lox, hix, dx⟩ := A4.out.get 1 rfl
  have Dx := hide (TPol.rd dx)
  clear dx
  go_wp2_with fail
  refine (C2.out _ _ _ Dx.out).mono ?_
  rintro e w5 ⟨rfl, q⟩
  have A5 := hide (A4.out.step q)
  clear A4 cbx0 cbx1 Dx lox hix q
  go_wp2
  obtain ⟨lo, hi, dd⟩ := A5.out.get 1 rfl
  have D5 := hide (TPol.rd dd)
  clear dd
  have F : Hid (∀ w', Below w5.heap.size w5 w' → (w'.cell? ⟨w.heap.size, 0, none⟩ = some p ∧ w'.cell? ⟨w.heap.size, 1, none⟩ = some r) ∧ (w'.cell? ⟨w4.heap.size, 0, none⟩ = some (.slice apx m.length cpx) ∧ w'.cell? ⟨w4.heap.size, 1, none⟩ = some (.slice arx rs.length crx))) :=
    fun w' hb => ⟨((A5.out.step hb).atBox 3 rfl).c2, ((A5.out.step hb).atBox 0 rfl).c2⟩
  go_region_held3 (fun w' => (w'.cell? ⟨w.heap.size, 0, none⟩ = some p ∧ w'.cell? ⟨w.heap.size, 1, none⟩ = some r) ∧ (w'.cell? ⟨w4.heap.size, 0, none⟩ = some (.slice apx m.length cpx) ∧ w'.cell? ⟨w4.heap.size, 1, none⟩ = some (.slice arx rs.length crx))) (first | exact F.out _ (Below.refl _ _).drew | exact F.out _ B2.out | exact F.out _ B1.out)
    ((first | (go_at_call 28; refine (eqPool_same _ _ _ _ m rs _ (D5.out.below B1.out) D6.out).mono ?_; rintro e' wr7 ⟨rfl, b7⟩; have B2 := hide (B1.out.trans (b7.mono B1.out.size)); clear b7) | (go_at_call 33; refine (toPool_calls p r m rs _ (R.out.below (A5.out.step (Below.refl _ _).drew).below) SZ.out).mono ?_; rintro e' wr6 ⟨p3, h3, rfl, d6, b6⟩; have D6 := hide (TPol.rd d6); have B1 := hide ((Below.refl w5.heap.size w5).drew.trans b6); clear b6 d6)))
  have A6 := hide (A5.out.step B2.out)
  clear A5 F B1 B2 D5 D6 lo hi
  go_wp2
  go_ret
  exact ⟨rfl, A6.out.below⟩
end Go.Proofs.Ythmijjcddjlebaa
