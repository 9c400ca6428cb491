/-
  What may be kept: the model's test, call by call. The contract says what it asks.
-/
import Derived.Test.YtpgmocogffolaaaDri
namespace Go.Proofs.Ytpgmocogffolaaa
open Go.RowKit
set_option linter.unusedVariables false

/-- The place i is as it should be. -/
def kpAt (H : List ByteArray) (ks : List Int) (i : Nat) : Prop := ks.getD i 0 ∈ hpl H H.length ∧ (i = 0 ∨ ks.getD (i - 1) 0 < ks.getD i 0)
theorem kpAt_all {H : List ByteArray} {ks : List Int} : kpOk H ks ↔ ∀ i, i < ks.length → kpAt H ks i := by
  unfold kpOk kpAt
  constructor
  · rintro ⟨h1, h2⟩ i hi
    obtain ⟨a, b, c⟩ := h1 i hi
    exact ⟨(mem_hpl_at H _).2 ⟨a, b, h2 i hi⟩, c⟩
  · intro h
    refine ⟨fun i hi => ?_, fun i hi => ?_⟩
    · obtain ⟨a, c⟩ := h i hi
      obtain ⟨b1, b2, b3⟩ := (mem_hpl_at H _).1 a
      exact ⟨b1, b2, c⟩
    · exact ((mem_hpl_at H _).1 (h i hi).1).2.2

set_option maxRecDepth 100000 in
set_option maxHeartbeats 1600000 in
theorem l7Kept_calls (p h b v : Value) (H : List ByteArray) (ks : List Int) (g : Bool) (w : World) (hh : RdT w h H) (hv : Rd w v ks) (hn : H.length ≤ 24) (hg : g = true ↔ kpOk H ks) :
    Calls Try.prog 130 #[.agg #[p, h, b], v] w fun e w' => e = .returned (.bool g) ∧ Below w.heap.size w w' := by
  have RH := hide hh
  have RV := hide hv
  have HG : Hid (g = true ↔ ∀ i, i < ks.length → kpAt H ks i) := hg.trans kpAt_all
  obtain ⟨a, cap, rfl, mv, _⟩ := hv.sl
  have A0 := hide ((Hand.start w).box #[p, h, b] 30)
  clear hh hv hg
  go_enter Try.func130, Try.ntmps130
  go_wp2_with fail
  refine (l7Held_calls p h b H _ (RH.out.below A0.out.below) hn).mono ?_
  rintro e w1 ⟨vh, rfl, o, q⟩
  obtain ⟨ah, ch, rfl⟩ := row_slice o
  have B1 := hide (A0.out.step q).below
  have O1 := hide o.rd
  clear q o A0
  go_wp2
  go_loop [6, 7, 12] (fun _ _ vi => ∃ k : Nat, k ≤ ks.length ∧ vi = .int .i64 k ∧ ∀ i, i < k → kpAt H ks i) (fun _ _ vi => ks.length - (intOf vi).toNat)
  case atStart => exact ⟨0, Nat.zero_le _, rfl, fun i hi => by omega⟩
  case round =>
    obtain ⟨k, hk, rfl, hall⟩ := hrel
    have AL := hide hall
    clear hall
    by_cases hlt : k < ks.length
    · have hlt' : (k : Int) < (ks.length : Int) := by omega
      have RV1 := hide (RV.out.below B1.out)
      obtain ⟨gb, off, rfl, hc1, _⟩ := RV1.out.at k hlt
      obtain ⟨x, hx⟩ : ∃ x, x = ks.getD k 0 := ⟨_, rfl⟩
      rw [← hx] at hc1
      have HX := hide hx
      obtain ⟨y, hy⟩ : ∃ y : Bool, y = true ↔ x ∈ hpl H H.length := by
        by_cases hh : x ∈ hpl H H.length
        · exact ⟨true, fun _ => hh, fun _ => rfl⟩
        · exact ⟨false, fun h => by simp at h, fun h => absurd h hh⟩
      have HY := hide hy
      have CH : Hid (Calls Try.prog 118 #[.slice ah (hpl H H.length).length ch, .int .i64 x] w1 fun e w' => e = .returned (.bool y) ∧ w1 = w') := l1Has_calls _ _ x y w1 O1.out hy
      clear hx hy
      cases y with
      | false =>
        have e0 : Hid (g = false) := by
          show g = false
          cases g with
          | false => rfl
          | true =>
            have := (HG.out.1 rfl k hlt).1
            rw [← HX.out] at this
            have := HY.out.2 this
            simp at this
        go_wp2_with (go_at_call 118; refine CH.out.mono ?_; rintro e w' ⟨rfl, rfl⟩)
        go_ret
        exact ⟨ret_bool e0.out.symm, B1.out⟩
      | true =>
        have XM : Hid (x ∈ hpl H H.length) := HY.out.1 rfl
        by_cases hk0 : k = 0
        · subst hk0
          have hc1' : w1.cell? ⟨gb, off, none⟩ = some (.int .i64 x) := by simpa using hc1
          go_wp2_with (go_at_call 118; refine CH.out.mono ?_; rintro e w' ⟨rfl, rfl⟩)
          go_round
          case rel =>
            refine ⟨1, by omega, by go_num, fun i hi => ?_⟩
            obtain rfl : i = 0 := by omega
            exact ⟨by rw [← HX.out]; exact XM.out, .inl rfl⟩
          case measure => simp [intOf]; omega
        · have hk0' : (0 : Int) < (k : Int) := by omega
          obtain ⟨gb', off', e', hc2, _⟩ := RV1.out.at (k - 1) (by omega)
          cases e'
          have t1 : ((k : Int) - 1).toNat = k - 1 := by omega
          have t2 : (0 : Int) ≤ (k : Int) - 1 := by omega
          have t3 : (k : Int) - 1 < (ks.length : Int) := by omega
          obtain ⟨u, hu⟩ : ∃ u, u = ks.getD (k - 1) 0 := ⟨_, rfl⟩
          rw [← hu] at hc2
          have HU := hide hu
          clear hu
          by_cases hux : u < x
          · have hux' : ¬ x ≤ u := by omega
            go_wp2_with (go_at_call 118; refine CH.out.mono ?_; rintro e w' ⟨rfl, rfl⟩)
            go_round
            case rel =>
              refine ⟨k + 1, by omega, by go_num, fun i hi => ?_⟩
              by_cases e : i = k
              · subst e; exact ⟨by rw [← HX.out]; exact XM.out, .inr (by rw [← HX.out, ← HU.out]; exact hux)⟩
              · exact AL.out i (by omega)
            case measure => simp [intOf]; omega
          · have hux' : x ≤ u := by omega
            have e0 : Hid (g = false) := by
              show g = false
              cases g with
              | false => rfl
              | true =>
                have := (HG.out.1 rfl k hlt).2
                rw [← HX.out, ← HU.out] at this
                omega
            go_wp2_with (go_at_call 118; refine CH.out.mono ?_; rintro e w' ⟨rfl, rfl⟩)
            go_ret
            exact ⟨ret_bool e0.out.symm, B1.out⟩
    · obtain rfl : k = ks.length := by omega
      go_wp2
      go_ret
      exact ⟨ret_bool (HG.out.2 AL.out).symm, B1.out⟩
end Go.Proofs.Ytpgmocogffolaaa
