/-
  What a sector of a stripe tells: the program's findPiece, and the model's l7Read. Each contract says what it asks.
-/
import Derived.Test.YtiojipicincgfaaSte
import Derived.Test.YtiojipicincgfaaFrd
import Derived.Test.YtiojipicincgfaaFre
import Derived.Test.YtiojipicincgfaaDrs
import Derived.Test.YtiojipicincgfaaSft
namespace Go.Proofs.Ytiojipicincgfaa
open Go.RowKit
set_option linter.unusedVariables false

/-- A piece that the program has found, behind its interface. -/
def pv (x : Option (Int × ByteArray)) : Value := match x with | none => .iface 72 (.agg #[]) | some y => .iface 74 (.agg #[.int .i64 y.1, .string y.2])
theorem gk_rs {P H : List ByteArray} {B : List Bool} (g : gkP P H B) (k : Nat) (hk : k < P.length) : (rsT P H k).size ≤ 28 := by
  unfold rsT
  split
  · exact g.2.2.2.1 k hk
  · exact g.2.2.2.2.1 k hk

set_option maxRecDepth 100000 in
set_option maxHeartbeats 1600000 in
theorem findPiece_calls (p h b : Value) (P H : List ByteArray) (B : List Bool) (k : Nat) (least : Int) (w : World) (gk : gkP P H B) (hk : k < P.length) (hp : RdT w p P) (hh : RdT w h H) (hb : RdZ w b B) :
    Calls Try.prog 39 #[.agg #[p, h, b], .int .i64 (k : Int), .int .i64 least] w fun e w' => e = .returned (pv (sk P H B least k)) ∧ Below w.heap.size w w' := by
  have RP := hide hp
  have RH := hide hh
  have RB := hide hb
  have GK := hide gk
  have h24 : P.length ≤ 24 := gk.1.2
  have A0 := hide ((Hand.start w).box #[p, h, b] 32)
  obtain ⟨x, hx⟩ : ∃ x, x = sk P H B least k := ⟨_, rfl⟩
  rw [← hx]
  unfold sk at hx
  have HX := hide hx
  have HK := hide hk
  clear hp hh hb hx gk hk
  cases hB : B.getD k false with
  | true =>
    have hno : ¬ rsOk P H B (k : Int) := fun h => by
      have := h.2.2
      rw [Int.toNat_natCast, hB] at this
      simp at this
    have e0 : x = none := by rw [HX.out, hB]; rfl
    subst e0
    have RS := hide (fun W h1 h2 h3 => readSector_calls p h b P H B (k : Int) ⟨#[]⟩ false W (.inr ⟨rfl, hno, rfl⟩) h1 h2 h3)
    clear hno hB HX
    show Calls _ _ _ _ fun e w' => e = .returned (.iface 72 (.agg #[])) ∧ _
    go_enter Try.func39, Try.ntmps39
    go_wp2_with fail
    refine (RS.out _ (RP.out.below A0.out.below) (RH.out.below A0.out.below) (RB.out.below A0.out.below)).mono ?_
    rintro e w1 ⟨rfl, q⟩
    have A1 := hide (A0.out.step q)
    clear q A0
    go_wp2
    go_ret
    exact ⟨rfl, A1.out.below⟩
  | false =>
    have hyes : rsOk P H B (k : Int) := ⟨GK.out, ⟨by omega, by have := HK.out; omega⟩, by rw [Int.toNat_natCast, hB]⟩
    have RS := hide (fun W h1 h2 h3 => readSector_calls p h b P H B (k : Int) (rsT P H k) true W (.inl ⟨rfl, hyes, rfl⟩) h1 h2 h3)
    have hsz := gk_rs GK.out k HK.out
    have e0 := HX.out
    rw [hB, if_neg (by simp)] at e0
    have SM := hide (ckR_small (rsT P H k) 2 k least)
    have CF := hide (fun W => checkFrame_calls (rsT P H k) 2 (k : Int) least W (by unfold maxLen; omega))
    generalize rsT P H k = s at RS e0 CF SM hsz
    generalize ckR s 2 (k : Int) least = c at e0 CF SM
    rcases c with ⟨K, A, E, bo, code, ok⟩
    simp only [] at e0 CF SM
    have E0 := hide e0
    have hbo : bo.size ≤ 16 := SM.out
    clear hyes hB HX e0 SM hsz
    have S0 := hide (A0.out.below)
    go_enter Try.func39, Try.ntmps39
    go_wp2_with fail
    refine (RS.out _ (RP.out.below A0.out.below) (RH.out.below A0.out.below) (RB.out.below A0.out.below)).mono ?_
    rintro e w1 ⟨rfl, q⟩
    have A1 := hide (A0.out.step q)
    clear q A0
    go_wp2_with fail
    refine (CF.out _).mono ?_
    rintro e w2 ⟨rfl, q⟩
    have A2 := hide (A1.out.step q)
    clear q A1
    have A3 := hide (A2.out.box #[.int .i64 K, .int .i64 A, .int .i64 E, .string bo] 65)
    cases ok with
    | false =>
      have e1 : x = none := by rw [E0.out]; simp
      subst e1
      clear E0
      go_wp2
      go_ret
      exact ⟨rfl, A3.out.below⟩
    | true =>
      by_cases h16 : bo.size = 16
      · have e1 : x = some (E, bo) := by rw [E0.out]; simp [h16]
        have h16' : ¬ (bo.size : Int) < 16 := by omega
        subst e1
        clear E0
        go_wp2
        go_ret
        exact ⟨rfl, A3.out.below⟩
      · have e1 : x = none := by rw [E0.out]; simp [h16]
        have h16' : (bo.size : Int) < 16 := by omega
        subst e1
        clear E0
        go_wp2
        go_ret
        exact ⟨rfl, A3.out.below⟩
end Go.Proofs.Ytiojipicincgfaa
