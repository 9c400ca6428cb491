/-
  The law that holds the program's FindKey against its model's: at every table and key the call returns true, and nothing that was there is written. No condition.
-/
import Derived.Test.YtnhonnaglmkjaaaTby
namespace Go.Proofs.Ytnhonnaglmkjaaa
open Go.RowKit
set_option linter.unusedVariables false

set_option maxRecDepth 100000 in
set_option maxHeartbeats 3200000 in
theorem fnExactFindKey_walk (s m : Int) (l r : Value) (ls rs : List Sl) (k : Int) (w : World) (hl : RdS w l ls) (hr : RdS w r rs) :
    Calls Try.prog 6 #[.agg #[.int .i64 s, l, r, .int .i64 m], .int .i64 k] w fun e w' => e = .returned (.bool true) ∧ Below w.heap.size w w' := by
  have RL := hide hl
  have RR := hide hr
  clear hl hr
  obtain ⟨y, ok, hf⟩ := fd_ex s m ls rs k
  have C1 := hide (fun (z : ls.length ≤ 1048576 ∧ rs.length ≤ 1048576) V p q h1 h2 => sFindKey_calls s m k p q ls rs y ok V h1 h2 z.1 z.2 hf)
  have C2 := hide (fun V p q h1 h2 => findKey_calls s m k p q ls rs y ok V h1 h2 hf)
  clear hf
  have A0 := hide ((Hand.start w).box #[.int .i64 s, l, r, .int .i64 m] 32)
  go_enter Try.func6, Try.ntmps6
  go_wp2_with fail
  refine (szTable_calls s m l r ls rs _ (RL.out.below A0.out.below) (RR.out.below A0.out.below)).mono ?_
  rintro e w1 ⟨⟨r1, rfl, hr⟩, q⟩
  have A1 := hide (A0.out.step q)
  clear A0 q
  by_cases r0 : r1 < 0
  · go_wp2
    go_ret
    exact ⟨rfl, A1.out.below⟩
  have SZ := hide (hr.resolve_left r0).2
  clear hr
  have C1 := hide (C1.out SZ.out)
  obtain ⟨caT0, caT1, caT2, caT3⟩ := (A1.out.atBox 0 rfl).c4
  go_wp2_with fail
  refine (toTable_calls s m l r ls rs _ (RL.out.below A1.out.below) (RR.out.below A1.out.below) SZ.out.1 SZ.out.2).mono ?_
  rintro e w2 ⟨lX, rX, rfl, d, q⟩
  obtain ⟨alX, clX, arX, crX, rfl, rfl⟩ := d.sl
  have ltX := q.size
  (try simp only [World.size_alloc] at ltX)
  have A2 := hide (A1.out.add q (TTab.st _ _ _ _) d)
  clear A1 caT0 caT1 caT2 caT3 q d
  obtain ⟨loX, hiX, dX⟩ := A2.out.get 0 rfl
  have DX : Hid (TabV _ loX hiX _ _ ls rs) := dX
  clear dX
  go_wp2_with fail
  refine (C1.out _ _ _ DX.out.rl DX.out.rr).mono ?_
  rintro e w3 ⟨rfl, q⟩
  have A3 := hide (A2.out.step q)
  clear A2 DX loX hiX q
  obtain ⟨caT0, caT1, caT2, caT3⟩ := (A3.out.atBox 1 rfl).c4
  go_wp2_with fail
  refine (toTable_calls s m l r ls rs _ (RL.out.below A3.out.below) (RR.out.below A3.out.below) SZ.out.1 SZ.out.2).mono ?_
  rintro e w4 ⟨lx, rx, rfl, d, q⟩
  obtain ⟨alx, clx, arx, crx, rfl, rfl⟩ := d.sl
  have ltx := q.size
  (try simp only [World.size_alloc] at ltx)
  have A4 := hide ((A3.out.add q (TTab.st _ _ _ _) d).box #[.int .i64 s, .slice alx ls.length clx, .slice arx rs.length crx, .int .i64 m] 24)
  clear A3 caT0 caT1 caT2 caT3 q d
  obtain ⟨cbx0, cbx1, cbx2, cbx3⟩ := (A4.out.atBox 0 rfl).c4
  obtain ⟨lox, hix, dx⟩ := A4.out.get 1 rfl
  have Dx : Hid (TabV _ lox hix _ _ ls rs) := dx
  clear dx
  go_wp2_with fail
  refine (C2.out _ _ _ Dx.out.rl Dx.out.rr).mono ?_
  rintro e w5 ⟨rfl, q⟩
  have A5 := hide (A4.out.step q)
  clear A4 cbx0 cbx1 cbx2 cbx3 Dx lox hix q
  go_wp2
  obtain ⟨lo, hi, dd⟩ := A5.out.get 1 rfl
  have D5 : Hid (TabV _ lo hi _ _ ls rs) := dd
  clear dd
  have F : Hid (∀ w', Below w5.heap.size w5 w' → (w'.cell? ⟨w.heap.size, 0, none⟩ = some (.int .i64 s) ∧ w'.cell? ⟨w.heap.size, 1, none⟩ = some l ∧ w'.cell? ⟨w.heap.size, 2, none⟩ = some r ∧ w'.cell? ⟨w.heap.size, 3, none⟩ = some (.int .i64 m)) ∧ (w'.cell? ⟨w4.heap.size, 0, none⟩ = some (.int .i64 s) ∧ w'.cell? ⟨w4.heap.size, 1, none⟩ = some (.slice alx ls.length clx) ∧ w'.cell? ⟨w4.heap.size, 2, none⟩ = some (.slice arx rs.length crx) ∧ w'.cell? ⟨w4.heap.size, 3, none⟩ = some (.int .i64 m))) :=
    fun w' hb => ⟨((A5.out.step hb).atBox 3 rfl).c4, ((A5.out.step hb).atBox 0 rfl).c4⟩
  go_region_held3 (fun w' => (w'.cell? ⟨w.heap.size, 0, none⟩ = some (.int .i64 s) ∧ w'.cell? ⟨w.heap.size, 1, none⟩ = some l ∧ w'.cell? ⟨w.heap.size, 2, none⟩ = some r ∧ w'.cell? ⟨w.heap.size, 3, none⟩ = some (.int .i64 m)) ∧ (w'.cell? ⟨w4.heap.size, 0, none⟩ = some (.int .i64 s) ∧ w'.cell? ⟨w4.heap.size, 1, none⟩ = some (.slice alx ls.length clx) ∧ w'.cell? ⟨w4.heap.size, 2, none⟩ = some (.slice arx rs.length crx) ∧ w'.cell? ⟨w4.heap.size, 3, none⟩ = some (.int .i64 m))) (first | exact F.out _ (Below.refl _ _).drew | exact F.out _ B2.out | exact F.out _ B1.out)
    ((first | (go_at_call 14; refine (eqTable_same s m _ _ _ _ ls rs _ (D5.out.below B1.out).rl (D5.out.below B1.out).rr D6.out.rl D6.out.rr).mono ?_; rintro e' wr7 ⟨rfl, b7⟩; have B2 := hide (B1.out.trans (b7.mono B1.out.size)); clear b7) | (go_at_call 19; refine (toTable_calls s m l r ls rs _ (RL.out.below (A5.out.step (Below.refl _ _).drew).below) (RR.out.below (A5.out.step (Below.refl _ _).drew).below) SZ.out.1 SZ.out.2).mono ?_; rintro e' wr6 ⟨p3, h3, rfl, d6, b6⟩; have D6 := hide d6; have B1 := hide ((Below.refl w5.heap.size w5).drew.trans b6); clear b6 d6)))
  have A6 := hide (A5.out.step B2.out)
  clear A5 F B1 B2 D5 D6 lo hi
  go_wp2
  go_ret
  exact ⟨rfl, A6.out.below⟩
end Go.Proofs.Ytnhonnaglmkjaaa
