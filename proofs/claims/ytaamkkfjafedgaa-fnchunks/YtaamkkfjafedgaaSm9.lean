/-
  Lists of numbers, and of texts, held against each other by the laws, where they are alike, call by call. No condition.
-/
import Derived.Test.YtaamkkfjafedgaaTxm
import Derived.Test.YtaamkkfjafedgaaInts
namespace Go.Proofs.Ytaamkkfjafedgaa
open Go.RowKit
set_option linter.unusedVariables false

set_option maxRecDepth 100000 in
set_option maxHeartbeats 800000 in
theorem sameInts9_quiet (v1 v2 : Value) (xs : List Int) (w : World) (h1 : Rd w v1 xs) (h2 : Rd w v2 xs) :
    Calls Try.prog 18 #[v1, v2] w fun e w' => e = .returned (.bool true) ∧ ∃ n, w' = w.drewN n := by
  obtain ⟨a1, c1, rfl, _, m1, k1⟩ := h1
  obtain ⟨a2, c2, rfl, _, _, k2⟩ := h2
  have hm : xs.length ≤ maxLen := by omega
  unfold maxLen at hm
  have K := hide k1
  have L := hide k2
  clear k1 k2 m1
  go_enter Try.func18, Try.ntmps18
  go_wp2
  go_loopw [13] (fun vi wr => ∃ k n : Nat, k ≤ xs.length ∧ vi = .int .i64 k ∧ wr = w.drewN n) (fun vi _ => xs.length - (intOf vi).toNat)
  case atStart => exact ⟨0, 0, Nat.zero_le _, rfl, rfl⟩
  case round =>
    obtain ⟨k, n, hk, rfl, rfl⟩ := hrel
    by_cases hlt : k < xs.length
    · rcases K.out with h3 | ⟨b, off, rfl, hbs, hc⟩
      · subst h3; simp at hlt
      rcases L.out with h3 | ⟨b', off', rfl, hbs', hc'⟩
      · subst h3; simp at hlt
      have e1 : w.cell? ⟨b, off + k, none⟩ = some (.int .i64 (xs.getD k 0)) := hc k hlt
      have e2 : w.cell? ⟨b', off' + k, none⟩ = some (.int .i64 (xs.getD k 0)) := hc' k hlt
      have hlt' : (k : Int) < (xs.length : Int) := by omega
      clear hc hc'
      go_wp2
      go_quiet (fail)
      go_wp2
      go_roundw
      case rel => exact ⟨k + 1, _, by omega, by go_num, rfl⟩
      case measure => simp [intOf]; omega
    · obtain rfl : k = xs.length := by omega
      go_wp2
      go_ret
      exact ⟨rfl, _, rfl⟩
theorem sameInts9_same (v1 v2 : Value) (xs : List Int) (w : World) (h1 : Rd w v1 xs) (h2 : Rd w v2 xs) :
    Calls Try.prog 18 #[v1, v2] w fun e w' => e = .returned (.bool true) ∧ Below w.heap.size w w' :=
  (sameInts9_quiet v1 v2 xs w h1 h2).mono (fun _ _ ⟨h, n, hn⟩ => ⟨h, hn ▸ below_drewN' n⟩)

set_option maxRecDepth 100000 in
set_option maxHeartbeats 400000 in
theorem sameTexts9_same (v1 v2 : Value) (xs : List ByteArray) (w : World) (h1 : RdT w v1 xs) (h2 : RdT w v2 xs) :
    Calls Try.prog 19 #[v1, v2] w fun e w' => e = .returned (.bool true) ∧ Below w.heap.size w w' := by
  obtain ⟨a1, c1, rfl, _, m1, _, k1⟩ := h1
  obtain ⟨a2, c2, rfl, _, _, _, k2⟩ := h2
  have hm : xs.length ≤ maxLen := by omega
  unfold maxLen at hm
  have K := hide k1
  have L := hide k2
  clear k1 k2 m1
  go_enter Try.func19, Try.ntmps19
  go_wp2
  go_loopw [13] (fun vi wr => ∃ k : Nat, k ≤ xs.length ∧ vi = .int .i64 k ∧ Below w.heap.size w wr) (fun vi _ => xs.length - (intOf vi).toNat)
  case atStart => exact ⟨0, Nat.zero_le _, rfl, Below.refl _ _⟩
  case round =>
    obtain ⟨k, hk, rfl, hb⟩ := hrel
    by_cases hlt : k < xs.length
    · rcases K.out with h3 | ⟨b, off, rfl, hbs, hc⟩
      · subst h3; simp at hlt
      rcases L.out with h3 | ⟨b', off', rfl, hbs', hc'⟩
      · subst h3; simp at hlt
      have e1 : wr.cell? ⟨b, off + k, none⟩ = some (.string (xs.getD k ⟨#[]⟩)) := (hb.cell (by exact hbs)).trans (hc k hlt)
      have e2 : wr.cell? ⟨b', off' + k, none⟩ = some (.string (xs.getD k ⟨#[]⟩)) := (hb.cell (by exact hbs')).trans (hc' k hlt)
      have hlt' : (k : Int) < (xs.length : Int) := by omega
      clear hc hc'
      generalize xs.getD k ⟨#[]⟩ = z at e1 e2
      go_wp2
      go_quiet (fail)
      go_wp2
      go_roundw
      case rel => exact ⟨k + 1, by omega, by go_num, below_drewN hb _⟩
      case measure => simp [intOf]; omega
    · obtain rfl : k = xs.length := by omega
      go_wp2
      go_ret
      exact ⟨rfl, hb⟩

end Go.Proofs.Ytaamkkfjafedgaa
