/-
  The polynomial that makes a code's words, and how many may be wrong: the program's functions and its model's, call by call. The program's table of rests must hold its seven numbers where the program's own functions are called.
-/
import Derived.Test.YtogopakmebiomaaDoorMulPoly
import Derived.Test.YtogopakmebiomaaDoorPolyE
namespace Go.Proofs.YtogopakmebiomaaDoor
open Go.RowKit

theorem rd_two {w : World} {y z : Int} : Rd (w.alloc (.cells #[.int .i64 y, .int .i64 z] 3)) (.slice (some ⟨w.heap.size, 0, none⟩) 2 2) [y, z] := by
  refine ⟨_, 2, rfl, Nat.le_refl _, ⟨by unfold maxLen; omega, fun h => by cases h⟩, .inr ⟨_, 0, rfl, by simp, fun i hi => ?_⟩⟩
  match i, hi with
  | 0, _ => exact World.cell?_alloc_at _ _ _ _ (by simp)
  | 1, _ => exact World.cell?_alloc_at _ _ _ _ (by simp)
namespace Gf

def wOk (t : Int) : Bool := decide (1 ≤ t ∧ t ≤ 3)
theorem wOk_iff {t : Int} : wOk t = true ↔ 1 ≤ t ∧ t ≤ 3 := by simp [wOk]
theorem wOk_no {t : Int} : wOk t = false ↔ ¬ (1 ≤ t ∧ t ≤ 3) := by simp [wOk]
set_option maxRecDepth 100000 in
theorem isWrong_calls (t : Int) (w : World) :
    Calls Tryd.prog 64 #[.int .i64 t] w fun e w' => e = .returned (.bool (wOk t)) ∧ w = w' := by
  by_cases h : 1 ≤ t
  · by_cases h2 : t ≤ 3
    · rw [wOk_iff.2 ⟨h, h2⟩]
      go_enter Tryd.func64, Tryd.ntmps64
      go_wp2
      go_ret
      exact ⟨rfl, rfl⟩
    · rw [wOk_no.2 (by omega)]
      go_enter Tryd.func64, Tryd.ntmps64
      go_wp2
      go_ret
      exact ⟨rfl, rfl⟩
  · rw [wOk_no.2 (by omega)]
    go_enter Tryd.func64, Tryd.ntmps64
    go_wp2
    go_ret
    exact ⟨rfl, rfl⟩
theorem checksOf_calls (t : Nat) (w : World) (h : t ≤ 1048576) :
    Calls Tryd.prog 65 #[.int .i64 t] w fun e w' => e = .returned (.int .i64 ((2 * t : Nat) : Int)) ∧ w = w' := by
  go_enter Tryd.func65, Tryd.ntmps65
  go_wp2
  go_ret
  exact ⟨by congr 2, rfl⟩
set_option maxRecDepth 100000 in
theorem l4Wrong_calls (t : Int) (w : World) :
    Calls Tryd.prog 62 #[.int .i64 t] w fun e w' => e = .returned (.bool (wOk t)) ∧ w = w' := by
  go_enter Tryd.func62, Tryd.ntmps62
  go_wp2_with (go_at_call 68; refine (l1In_calls _ _ _ _).mono ?_; rintro e w' ⟨rfl, rfl⟩)
  go_ret
  exact ⟨ret_bool (by simp [wOk]), rfl⟩

/-- The product of the first k factors. -/
def genI : Nat → List Int
  | 0 => [1]
  | k + 1 => (mulR (genI k) [((pow 2 k : Nat) : Int), 1]).1
def genS (k : Nat) : List Int := cutL (ci (mp (nat (genI k)) (nat [((pow 2 k : Nat) : Int), 1]) (List.replicate ((genI k).length + [((pow 2 k : Nat) : Int), 1].length) 0) (genI k).length))
theorem gen_tab : allB 7 (fun k => goodP (genI k) && ((genI k).length == k + 1)) = true := by decide +kernel
theorem gen_tab2 : allB 6 (fun k => (mulR (genI k) [((pow 2 k : Nat) : Int), 1]).2 && (genS k == genI (k + 1))) = true := by decide +kernel
theorem gen_facts {k : Nat} (hk : k ≤ 6) : goodP (genI k) = true ∧ (genI k).length = k + 1 := by
  have := allB_of gen_tab k (by omega)
  simpa using this
theorem gen_next {k : Nat} (hk : k < 6) : (mulR (genI k) [((pow 2 k : Nat) : Int), 1]).2 = true ∧ genS k = genI (k + 1) := by
  have := allB_of gen_tab2 k hk
  simpa using this
theorem two_good {x : Nat} (h : x < 256) : goodP [(x : Int), 1] = true := by
  simp [goodP, elOk]
  omega
def genR (t : Int) : List Int × Bool := if wOk t = true then (genI (2 * t.toNat), true) else ([], false)
theorem genR_len (t : Int) : (genR t).1.length ≤ 1048576 := by
  unfold genR
  split
  next h =>
    have := wOk_iff.1 h
    show (genI (2 * t.toNat)).length ≤ _
    rw [(gen_facts (k := 2 * t.toNat) (by omega)).2]
    omega
  next => show 0 ≤ _; omega
theorem genR_yes {t : Int} (h : wOk t = true) : genR t = (genI (2 * t.toNat), true) := if_pos h
theorem genR_no {t : Int} (h : wOk t = false) : genR t = ([], false) := if_neg (by rw [h]; decide)

set_option maxRecDepth 100000 in
set_option maxHeartbeats 1600000 in
theorem generatorOf_calls (t : Int) (w : World) (hT : Tab w) :
    Calls Tryd.prog 14 #[.int .i64 t] w fun e w' => ∃ v', e = .returned (.tuple #[v', .bool (genR t).2]) ∧ Own w' w.heap.size v' (genR t).1 ∧ Below w.heap.size w w' := by
  have T := hide hT
  clear hT
  cases hw : wOk t with
  | false =>
    have G := hide hw
    rw [genR_no hw]
    clear hw
    go_enter Tryd.func14, Tryd.ntmps14
    go_wp2_with fail
    refine (isWrong_calls t _).mono ?_
    rw [G.out]
    rintro e w' ⟨rfl, rfl⟩
    go_wp2
    go_ret2
    exact ⟨_, rfl, own_nil _ _, Below.refl _ _⟩
  | true =>
    rw [genR_yes hw]
    obtain ⟨h1, h3⟩ := wOk_iff.1 hw
    obtain ⟨n, rfl⟩ := Int.eq_ofNat_of_zero_le (a := t) (by omega)
    have G := hide hw
    rw [Int.toNat_natCast]
    clear hw
    go_enter Tryd.func14, Tryd.ntmps14
    go_wp2_with fail
    refine (isWrong_calls _ _).mono ?_
    rw [G.out]
    rintro e w' ⟨rfl, rfl⟩
    go_wp2_with fail
    refine (checksOf_calls n _ (by omega)).mono ?_
    rintro e w' ⟨rfl, rfl⟩
    obtain ⟨N, hN⟩ : ∃ N, N = 2 * n := ⟨_, rfl⟩
    rw [← hN]
    have hN6 : N ≤ 6 := by omega
    have HN := hide hN
    clear hN
    go_wp2
    go_loopw [4, 12] (fun vg vk wr => ∃ k : Nat, k ≤ N ∧ vk = .int .i64 k ∧ Own wr w.heap.size vg (genI k) ∧ Below w.heap.size w wr) (fun _ vk _ => N - (intOf vk).toNat)
    case atStart =>
      refine ⟨0, Nat.zero_le _, rfl, ?_, (Below.refl _ _).alloc (Nat.le_refl _) _⟩
      exact World.ownsRow_lit w #[.int .i64 1] 1 (Nat.le_refl _) (by decide) (by rfl)
    case round =>
      obtain ⟨k, hk, rfl, ho, hb⟩ := hrel
      have O := hide ho
      have B := hide hb
      clear ho hb
      by_cases hlt : k < N
      · have hlt' : (k : Int) < (N : Int) := by omega
        go_wp2_with fail
        refine (powE_calls 2 k _ (T.out.below B.out) (by omega) (by omega) (by omega) (by omega)).mono ?_
        rintro e w' ⟨rfl, rfl⟩
        rw [Int.toNat_natCast]
        obtain ⟨x, hx⟩ : ∃ x, x = pow 2 k := ⟨_, rfl⟩
        rw [show pow (Int.toNat 2) k = x from hx.symm]
        have X := hide hx
        have hx256 : x < 256 := by rw [hx]; exact pow_lt _ _
        clear hx
        have hsz := B.out.size
        go_wp2_with fail
        refine (mulPoly_calls _ _ (genI k) [(x : Int), 1] _ ((T.out.below B.out).below ((Below.refl _ _).alloc (Nat.le_refl _) _)) (O.out.rd.below ((Below.refl _ _).alloc (Nat.le_refl _) _)) rd_two).mono ?_
        rintro e w1 ⟨v1, rfl, ho1, hb1⟩
        have O1 : Hid (Own w1 w.heap.size v1 (genI (k + 1))) := by
          have := ho1.mono (base' := w.heap.size) (by simp; omega)
          rw [X.out] at this
          exact this
        have B1 := hide ((B.out.alloc hsz _).trans (hb1.mono (by simp; omega)))
        clear ho1 hb1 O
        go_wp2
        go_roundw
        case rel => exact ⟨k + 1, by omega, by go_num, O1.out, B1.out⟩
        case measure => simp [intOf]; omega
      · obtain rfl : k = N := by omega
        go_wp2
        go_ret2
        exact ⟨_, rfl, by rw [← HN.out]; exact O.out, B.out⟩

set_option maxRecDepth 100000 in
set_option maxHeartbeats 1600000 in
theorem l4Generator_calls (n : Nat) (w : World) (h3 : n ≤ 3) :
    Calls Tryd.prog 63 #[.int .i64 n] w fun e w' => ∃ v', e = .returned v' ∧ Own w' w.heap.size v' (genI (2 * n)) ∧ Below w.heap.size w w' := by
  go_enter Tryd.func63, Tryd.ntmps63
  go_wp2
  go_loopw [3, 4] (fun vg vk wr => ∃ k : Nat, k ≤ 2 * n ∧ vk = .int .i64 k ∧ Own wr w.heap.size vg (genI k) ∧ Below w.heap.size w wr) (fun _ vk _ => 2 * n - (intOf vk).toNat)
  case atStart =>
    refine ⟨0, Nat.zero_le _, rfl, ?_, (Below.refl _ _).alloc (Nat.le_refl _) _⟩
    exact World.ownsRow_lit w #[.int .i64 1] 1 (Nat.le_refl _) (by decide) (by rfl)
  case round =>
    obtain ⟨k, hk, rfl, ho, hb⟩ := hrel
    have O := hide ho
    have B := hide hb
    clear ho hb
    by_cases hlt : k < 2 * n
    · have hlt' : (k : Int) < 2 * (n : Int) := by omega
      go_wp2_with fail
      refine (l1Pow_calls 2 k _ (by omega) (by omega) (by omega) (by omega)).mono ?_
      rintro e w' ⟨rfl, rfl⟩
      rw [Int.toNat_natCast]
      obtain ⟨x, hx⟩ : ∃ x, x = pow 2 k := ⟨_, rfl⟩
      rw [show pow (Int.toNat 2) k = x from hx.symm]
      have X := hide hx
      have hx256 : x < 256 := by rw [hx]; exact pow_lt _ _
      clear hx
      have hsz := B.out.size
      go_wp2_with fail
      refine (l1MulPoly_calls _ _ (genI k) [(x : Int), 1] _ (O.out.rd.below ((Below.refl _ _).alloc (Nat.le_refl _) _)) rd_two (gen_facts (by omega)).1 (two_good hx256)).mono ?_
      rintro e w1 ⟨v1, rfl, ho1, hb1⟩
      have O1 : Hid (Own w1 w.heap.size v1 (genI (k + 1))) := by
        have := ho1.mono (base' := w.heap.size) (by simp; omega)
        rw [X.out] at this
        have e := (gen_next (k := k) (by omega)).2
        rw [← e]
        exact this
      have B1 := hide ((B.out.alloc hsz _).trans (hb1.mono (by simp; omega)))
      clear ho1 hb1 O
      go_wp2
      go_roundw
      case rel => exact ⟨k + 1, by omega, by go_num, O1.out, B1.out⟩
      case measure => simp [intOf]; omega
    · obtain rfl : k = 2 * n := by omega
      have hlt' : ¬ ((2 * n : Nat) : Int) < 2 * (n : Int) := by omega
      go_wp2
      go_ret
      exact ⟨_, rfl, O.out, B.out⟩

set_option maxRecDepth 100000 in
set_option maxHeartbeats 1600000 in
theorem sGeneratorOf_calls (t : Int) (w : World) :
    Calls Tryd.prog 13 #[.int .i64 t] w fun e w' => ∃ v', e = .returned (.tuple #[v', .bool (genR t).2]) ∧ Own w' w.heap.size v' (genR t).1 ∧ Below w.heap.size w w' := by
  cases hw : wOk t with
  | false =>
    have G := hide hw
    rw [genR_no hw]
    clear hw
    go_enter Tryd.func13, Tryd.ntmps13
    go_wp2_with fail
    refine (l4Wrong_calls t _).mono ?_
    rw [G.out]
    rintro e w' ⟨rfl, rfl⟩
    go_wp2
    go_ret2
    exact ⟨_, rfl, own_nil _ _, Below.refl _ _⟩
  | true =>
    rw [genR_yes hw]
    obtain ⟨h1, h3⟩ := wOk_iff.1 hw
    obtain ⟨n, rfl⟩ := Int.eq_ofNat_of_zero_le (a := t) (by omega)
    have G := hide hw
    rw [Int.toNat_natCast]
    clear hw
    go_enter Tryd.func13, Tryd.ntmps13
    go_wp2_with fail
    refine (l4Wrong_calls _ _).mono ?_
    rw [G.out]
    rintro e w' ⟨rfl, rfl⟩
    go_wp2_with fail
    refine (l4Generator_calls n _ (by omega)).mono ?_
    rintro e w1 ⟨v1, rfl, ho1, hb1⟩
    have O1 := hide ho1
    have B1 := hide hb1
    clear ho1 hb1
    go_wp2
    go_ret2
    exact ⟨_, rfl, O1.out, B1.out⟩
end Gf
end Go.Proofs.YtogopakmebiomaaDoor
