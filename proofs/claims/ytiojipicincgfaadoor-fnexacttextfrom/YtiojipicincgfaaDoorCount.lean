/-
  How many pieces are unlike: the program's function and its model's, call by call. Each contract says what it asks.
-/
import Derived.Test.YtiojipicincgfaaDoorUnlike
namespace Go.Proofs.YtiojipicincgfaaDoor
open Go.RowKit

/-- How many of the first k rows are unlike. -/
def unlTo (a b : List (List Int)) : Nat → Nat
  | 0 => 0
  | k + 1 => unlTo a b k + if a.getD k [] = b.getD k [] then 0 else 1
theorem unlTo_le (a b : List (List Int)) (k : Nat) : unlTo a b k ≤ k := by
  induction k with
  | zero => exact Nat.le_refl _
  | succ k ih => rw [unlTo]; split <;> omega
theorem unlTo_comm (a b : List (List Int)) (k : Nat) : unlTo a b k = unlTo b a k := by
  induction k with
  | zero => rfl
  | succ k ih =>
    rw [unlTo, unlTo, ih]
    by_cases h : a.getD k [] = b.getD k []
    · rw [if_pos h, if_pos h.symm]
    · rw [if_neg h, if_neg (fun e => h e.symm)]
theorem RdM.at {w : World} {a : Option Addr} {n cap : Nat} {m : List (List Int)} (h : RdM w (.slice a n cap) m) (i : Nat) (hi : i < m.length) :
    ∃ b off u, a = some ⟨b, off, none⟩ ∧ b < w.heap.size ∧ w.cell? ⟨b, off + i, none⟩ = some u ∧ Rd w u (m.getD i []) := by
  obtain ⟨a', cap', hv, _, _, h3⟩ := h
  simp only [Value.slice.injEq] at hv
  obtain ⟨rfl, rfl, rfl⟩ := hv
  rcases h3 with h3 | ⟨b, off, rfl, hlt, hc⟩
  · subst h3; simp at hi
  · obtain ⟨u, hu, hr⟩ := hc i hi
    exact ⟨b, off, u, rfl, hlt, hu, hr⟩
theorem below_drewC {B : Nat} {w w' : World} (h : Below B w w') : Below B w w'.drew := ⟨h.os, h.tape, h.output, h.size, h.block⟩

set_option maxRecDepth 100000 in
set_option maxHeartbeats 3200000 in
theorem countUnlike_calls (av bv : Value) (a b : List (List Int)) (n : Nat) (w : World) (ha : RdM w av a) (hb : RdM w bv b) (hal : a.length = n) (hbl : b.length = n) (hn : n ≤ 4096)
    (hr : ∀ i, i < n → (a.getD i []).length = (b.getD i []).length ∧ (a.getD i []).length ≤ 32) :
    Calls Tryd.prog 47 #[av, bv] w fun e w' => e = .returned (.int .i64 ((unlTo a b n : Nat) : Int)) ∧ Below w.heap.size w w' := by
  have RA := hide ha
  have RB := hide hb
  have HR := hide hr
  have AL := hide hal
  have BL := hide hbl
  obtain ⟨aa, acap, hav, _⟩ := ha
  obtain ⟨ba, bcap, hbv, _⟩ := hb
  rw [hal] at hav
  rw [hbl] at hbv
  subst hav hbv
  clear hr hal hbl
  go_enter Tryd.func47, Tryd.ntmps47
  go_wp2
  go_loopw [5, 9] (fun vn vi wr => ∃ k c : Nat, k ≤ n ∧ vi = .int .i64 k ∧ vn = .int .i64 c ∧ c = unlTo a b k ∧ Below w.heap.size w wr) (fun _ vi _ => n - (intOf vi).toNat)
  case atStart => exact ⟨0, 0, Nat.zero_le _, rfl, rfl, rfl, Below.refl _ _⟩
  case round =>
    obtain ⟨k, c, hk, rfl, rfl, hc, hb⟩ := hrel
    have C := hide hc
    have B := hide hb
    have hcn : c ≤ 4096 := by rw [hc]; have := unlTo_le a b k; omega
    clear hc hb
    by_cases hlt : k < n
    · have hlt' : (k : Int) < (n : Int) := by omega
      obtain ⟨ab, aoff, au, rfl, hab, hac, hau⟩ := RA.out.at k (by rw [AL.out]; exact hlt)
      obtain ⟨bb, boff, bu, rfl, hbb, hbc, hbu⟩ := RB.out.at k (by rw [BL.out]; exact hlt)
      have hac1 : wr.cell? ⟨ab, aoff + k, none⟩ = some au := (B.out.cell (p := ⟨ab, aoff + k, none⟩) hab).trans hac
      have hbc1 : wr.cell? ⟨bb, boff + k, none⟩ = some bu := (B.out.cell (p := ⟨bb, boff + k, none⟩) hbb).trans hbc
      obtain ⟨r, hrr⟩ : ∃ r, r = a.getD k [] := ⟨_, rfl⟩
      obtain ⟨s, hss⟩ : ∃ s, s = b.getD k [] := ⟨_, rfl⟩
      obtain ⟨hl1, hl2⟩ := HR.out k hlt
      rw [← hrr] at hau hl1 hl2
      rw [← hss] at hbu hl1
      obtain ⟨A, hA⟩ : ∃ A, A = padA r := ⟨_, rfl⟩
      obtain ⟨S, hS⟩ : ∃ S, S = padA s := ⟨_, rfl⟩
      obtain ⟨t, ht⟩ : ∃ t, t = decide (r = s) := ⟨_, rfl⟩
      have heq : ∀ w', Sem.run Tryd.prog (Op.equalIn 10000 80 (.agg A) (.agg S)) w' = .ok t w' := fun w' => by
        rw [hA, hS, ht]
        exact equal_whole r s hl2 (by omega) hl1 w'
      have HA : Hid (∀ W, Below w.heap.size w W → Calls Tryd.prog 65 #[au] W fun e w' => e = .returned (.agg A) ∧ Below W.heap.size W w') := fun W hW => by
        rw [hA]
        exact wholeOf_calls au r W ((hau.below hW)) hl2
      have HB : Hid (∀ W, Below w.heap.size w W → Calls Tryd.prog 65 #[bu] W fun e w' => e = .returned (.agg S) ∧ Below W.heap.size W w') := fun W hW => by
        rw [hS]
        exact wholeOf_calls bu s W ((hbu.below hW)) (by omega)
      have nx : unlTo a b (k + 1) = c + if t = true then 0 else 1 := by
        rw [unlTo, ← C.out, ht, ← hrr, ← hss]
        simp only [decide_eq_true_eq]
      have NX := hide nx
      have i0 : (0 : Int) ≤ (k : Int) := by omega
      have BD := hide (below_drewC B.out)
      obtain ⟨W0, rfl⟩ : ∃ W0, W0 = wr := ⟨_, rfl⟩
      clear hA hS ht nx hac hbc hau hbu hrr hss
      go_wp2
      go_region_with (first
        | (go_at_call 65; refine (HA.out _ BD.out).mono ?_; rintro e w1 ⟨rfl, hb1⟩; have hB1 : Below w.heap.size w w1 := BD.out.trans (hb1.mono BD.out.size); have hbc1' : w1.cell? ⟨bb, boff + k, none⟩ = some bu := (hb1.cell (p := ⟨bb, boff + k, none⟩) (Nat.lt_of_lt_of_le hbb BD.out.size)).trans hbc1)
        | (go_at_call 65; refine (HB.out _ hB1).mono ?_; rintro e w2 ⟨rfl, hb2⟩; have hB2 : Below w.heap.size w w2 := hB1.trans (hb2.mono hB1.size)))
      all_goals
        have BB := hide hB2
        clear hb1 hB1 hbc1' hb2 hB2 heq
        cases t with
        | true =>
          go_wp2
          go_roundw
          case rel => exact ⟨k + 1, c, by omega, by go_num, rfl, by rw [NX.out]; rfl, BB.out⟩
          case measure => simp [intOf]; omega
        | false =>
          go_wp2
          go_roundw
          case rel => exact ⟨k + 1, c + 1, by omega, by go_num, by go_num, by rw [NX.out]; rfl, BB.out⟩
          case measure => simp [intOf]; omega
    · obtain rfl : k = n := by omega
      go_wp2
      go_ret
      rw [C.out]
      exact ⟨rfl, B.out⟩
end Go.Proofs.YtiojipicincgfaaDoor
