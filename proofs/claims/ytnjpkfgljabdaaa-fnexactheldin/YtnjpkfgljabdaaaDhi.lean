/-
  Where something is held: the program's HeldIn and its model's, call by call. Each contract says what it asks.
-/
import Derived.Test.YtnjpkfgljabdaaaDhl
namespace Go.Proofs.Ytnjpkfgljabdaaa
open Go.RowKit
set_option linter.unusedVariables false

/-- What HeldIn answers. -/
def hiL (g : Bool) (H : List ByteArray) : List Int := if g = true then hpl H H.length else []
theorem hiL_len {P H : List ByteArray} {B : List Bool} {g : Bool} (hg : g = true ↔ gkP P H B) : (hiL g H).length ≤ 24 := by
  cases g with
  | false => simp [hiL]
  | true =>
    have h := hg.1 rfl
    have h1 : H.length = P.length := h.2.1
    have h2 := h.1.2
    have h3 := hpl_len H H.length
    simp only [hiL, if_true]
    omega

set_option maxRecDepth 100000 in
set_option maxHeartbeats 800000 in
theorem heldIn_calls (p h b : Value) (P H : List ByteArray) (B : List Bool) (g : Bool) (w : World) (hg : g = true ↔ gkP P H B) (hp : RdT w p P) (hh : RdT w h H) (hb : RdZ w b B) :
    Calls Try.prog 37 #[.agg #[p, h, b]] w fun e w' => ∃ v, e = .returned (.tuple #[v, .bool g]) ∧ Own w' w.heap.size v (hiL g H) ∧ Below w.heap.size w w' := by
  have RP := hide hp
  have RH := hide hh
  have RB := hide hb
  have C := hide (fun W (h1 : RdT W p P) (h2 : RdT W h H) (h3 : RdZ W b B) => goodDisk_calls p h b P H B g W hg h1 h2 h3)
  have A0 := hide ((Hand.start w).box #[p, h, b] 25)
  cases g with
  | false =>
    clear hp hh hb hg
    go_enter Try.func37, Try.ntmps37
    go_wp2_with fail
    refine (C.out _ (RP.out.below A0.out.below) (RH.out.below A0.out.below) (RB.out.below A0.out.below)).mono ?_
    rintro e w1 ⟨rfl, q⟩
    have A1 := hide (A0.out.step q)
    clear q A0
    go_wp2
    go_ret2
    exact ⟨_, rfl, World.ownsRow_nil _ _ _ _, A1.out.below⟩
  | true =>
    have n24 : H.length ≤ 24 := by
      have h := hg.1 rfl
      have h1 : H.length = P.length := h.2.1
      have h2 := h.1.2
      omega
    clear hp hh hb hg
    go_enter Try.func37, Try.ntmps37
    go_wp2_with fail
    refine (C.out _ (RP.out.below A0.out.below) (RH.out.below A0.out.below) (RB.out.below A0.out.below)).mono ?_
    rintro e w1 ⟨rfl, q⟩
    have A1 := hide (A0.out.step q)
    clear q A0
    obtain ⟨c0, c1, c2⟩ := (A1.out.atBox 0 rfl).c3
    go_wp2_with fail
    refine (heldPlaces_calls p h b H _ (RH.out.below A1.out.below) n24).mono ?_
    rintro e w2 ⟨v, rfl, o, q⟩
    have A2 := hide (A1.out.step q)
    have O := hide (ownsRow_mono o A1.out.below.size)
    clear q o A1 c0 c1 c2
    go_wp2
    go_ret2
    exact ⟨_, rfl, O.out, A2.out.below⟩

set_option maxRecDepth 100000 in
set_option maxHeartbeats 800000 in
theorem sHeldIn_calls (p h b : Value) (P H : List ByteArray) (B : List Bool) (g : Bool) (w : World) (hg : g = true ↔ gkP P H B) (hp : RdT w p P) (hh : RdT w h H) (hb : RdZ w b B) :
    Calls Try.prog 36 #[.agg #[p, h, b]] w fun e w' => ∃ v, e = .returned (.tuple #[v, .bool g]) ∧ Own w' w.heap.size v (hiL g H) ∧ Below w.heap.size w w' := by
  have RP := hide hp
  have RH := hide hh
  have RB := hide hb
  have C := hide (fun W (h1 : RdT W p P) (h2 : RdT W h H) (h3 : RdZ W b B) => sGoodDisk_calls p h b P H B g W hg h1 h2 h3)
  have A0 := hide ((Hand.start w).box #[p, h, b] 25)
  cases g with
  | false =>
    clear hp hh hb hg
    go_enter Try.func36, Try.ntmps36
    go_wp2_with fail
    refine (C.out _ (RP.out.below A0.out.below) (RH.out.below A0.out.below) (RB.out.below A0.out.below)).mono ?_
    rintro e w1 ⟨rfl, q⟩
    have A1 := hide (A0.out.step q)
    clear q A0
    go_wp2
    go_ret2
    exact ⟨_, rfl, World.ownsRow_nil _ _ _ _, A1.out.below⟩
  | true =>
    have n24 : H.length ≤ 24 := by
      have h := hg.1 rfl
      have h1 : H.length = P.length := h.2.1
      have h2 := h.1.2
      omega
    clear hp hh hb hg
    go_enter Try.func36, Try.ntmps36
    go_wp2_with fail
    refine (C.out _ (RP.out.below A0.out.below) (RH.out.below A0.out.below) (RB.out.below A0.out.below)).mono ?_
    rintro e w1 ⟨rfl, q⟩
    have A1 := hide (A0.out.step q)
    clear q A0
    obtain ⟨c0, c1, c2⟩ := (A1.out.atBox 0 rfl).c3
    go_wp2_with fail
    refine (l7Held_calls p h b H _ (RH.out.below A1.out.below) n24).mono ?_
    rintro e w2 ⟨v, rfl, o, q⟩
    have A2 := hide (A1.out.step q)
    have O := hide (ownsRow_mono o A1.out.below.size)
    clear q o A1 c0 c1 c2
    go_wp2
    go_ret2
    exact ⟨_, rfl, O.out, A2.out.below⟩
end Go.Proofs.Ytnjpkfgljabdaaa
