/-
  The bits of a key, what is within another set, bits of both: the program's functions, call by call. Each contract says what it asks.
-/
import Derived.Test.YtehjfjplajimfaaFlc
namespace Go.Proofs.Ytehjfjplajimfaa
open Go.RowKit
set_option linter.unusedVariables false

theorem one_in (x : Int) (h0 : 0 ≤ x) (h1 : x < 64) : ∀ i, i < [x].length → 0 ≤ [x].getD i 0 ∧ [x].getD i 0 < 64 := by
  intro i hi
  obtain rfl : i = 0 := by simpa using hi
  exact ⟨h0, h1⟩
theorem kB_put (k : Int) (n : Nat) : rchN (kB k n) [hB k n] = kB k (n + 1) := by rw [kB_succ]; rfl
theorem hB_0 (k : Int) : k * 7 % 61 = hB k 0 := by unfold hB; congr 1; omega
theorem hB_1 (k : Int) : (k * 9 + 13) % 61 = hB k 1 := by unfold hB; congr 1
theorem hB_2 (k : Int) : (k * 11 + 26) % 61 = hB k 2 := by unfold hB; congr 1

set_option maxRecDepth 100000 in
set_option maxHeartbeats 1600000 in
theorem keyBits_calls (k : Int) (w : World) (hk : kOk k) :
    Calls Try.prog 80 #[.int .i64 k] w fun e w' => ∃ v', e = .returned v' ∧ OwnZ w' w.heap.size v' (kB k 3) ∧ Below w.heap.size w w' := by
  obtain ⟨k0, k1⟩ := hk
  go_enter Try.func80, Try.ntmps80
  go_wp2_with fail
  refine (newBitSet_calls _).mono ?_
  rintro e w1 ⟨v1, rfl, o1, b1⟩
  obtain ⟨g, cap, rfl, hg1, hg2⟩ := o1.opn (by rw [no64_len]; omega)
  rw [no64_len]
  rw [no64_len] at o1
  have O1 : Hid (OwnZ w1 w.heap.size (.slice (some ⟨g, 0, none⟩) 64 cap) (kB k 0)) := o1
  have B1 := hide b1
  clear o1 b1
  go_wp2
  go_loopw [6] (fun vi wr => ∃ i : Nat, i ≤ 3 ∧ vi = .int .i64 i ∧ OwnZ wr w.heap.size (.slice (some ⟨g, 0, none⟩) 64 cap) (kB k i) ∧ Below w.heap.size w wr) (fun vi _ => 3 - (intOf vi).toNat)
  case atStart => exact ⟨0, by omega, rfl, O1.out, B1.out⟩
  case round =>
    obtain ⟨i, hi, rfl, ho, hb⟩ := hrel
    have O := hide ho
    have B := hide hb
    clear ho hb
    have hgr : g < wr.heap.size := (O.out.lt g rfl).2
    by_cases hlt : i < 3
    · rcases (show i = 0 ∨ i = 1 ∨ i = 2 by omega) with rfl | rfl | rfl
      · go_wp2_with fail
        rw [hB_0 k]
        have h0 := hB_lo k 0
        have h1 := hB_hi k 0
        refine (put_calls _ _ (kB k 0) [hB k 0] w.heap.size _ (ownsRow_below O.out (below_box _ _)) (fun w' hg => ?rd) (by rw [kB_len]; exact one_in _ h0 (by omega)) (by rw [kB_len]; omega) (by rw [kB_len]; omega)).mono ?_
        case rd =>
          refine rd_one ((BoxAt.new wr #[.int .i64 (hB k 0)] 3).kept hg ?_)
          intro e
          simp [Value.ownBlock] at e
          omega
        rw [kB_put]
        rintro e w2 ⟨rfl, o2, g2⟩
        have O2 := hide o2
        have B2 := hide ((B.out.alloc (by exact B.out.size) _).grown g2 (by have := B.out.size; simp; omega) (fun j hj => by simp [Value.ownBlock] at hj; omega))
        clear o2 g2 h0 h1
        go_wp2
        go_roundw
        case rel => exact ⟨0 + 1, by omega, by go_num, O2.out, B2.out⟩
        case measure => simp [intOf]
      · go_wp2_with fail
        rw [hB_1 k]
        have h0 := hB_lo k 1
        have h1 := hB_hi k 1
        refine (put_calls _ _ (kB k 1) [hB k 1] w.heap.size _ (ownsRow_below O.out (below_box _ _)) (fun w' hg => ?rd) (by rw [kB_len]; exact one_in _ h0 (by omega)) (by rw [kB_len]; omega) (by rw [kB_len]; omega)).mono ?_
        case rd =>
          refine rd_one ((BoxAt.new wr #[.int .i64 (hB k 1)] 3).kept hg ?_)
          intro e
          simp [Value.ownBlock] at e
          omega
        rw [kB_put]
        rintro e w2 ⟨rfl, o2, g2⟩
        have O2 := hide o2
        have B2 := hide ((B.out.alloc (by exact B.out.size) _).grown g2 (by have := B.out.size; simp; omega) (fun j hj => by simp [Value.ownBlock] at hj; omega))
        clear o2 g2 h0 h1
        go_wp2
        go_roundw
        case rel => exact ⟨1 + 1, by omega, by go_num, O2.out, B2.out⟩
        case measure => simp [intOf]
      · go_wp2_with fail
        rw [hB_2 k]
        have h0 := hB_lo k 2
        have h1 := hB_hi k 2
        refine (put_calls _ _ (kB k 2) [hB k 2] w.heap.size _ (ownsRow_below O.out (below_box _ _)) (fun w' hg => ?rd) (by rw [kB_len]; exact one_in _ h0 (by omega)) (by rw [kB_len]; omega) (by rw [kB_len]; omega)).mono ?_
        case rd =>
          refine rd_one ((BoxAt.new wr #[.int .i64 (hB k 2)] 3).kept hg ?_)
          intro e
          simp [Value.ownBlock] at e
          omega
        rw [kB_put]
        rintro e w2 ⟨rfl, o2, g2⟩
        have O2 := hide o2
        have B2 := hide ((B.out.alloc (by exact B.out.size) _).grown g2 (by have := B.out.size; simp; omega) (fun j hj => by simp [Value.ownBlock] at hj; omega))
        clear o2 g2 h0 h1
        go_wp2
        go_roundw
        case rel => exact ⟨2 + 1, by omega, by go_num, O2.out, B2.out⟩
        case measure => simp [intOf]
    · obtain rfl : i = 3 := by omega
      go_wp2
      go_ret
      exact ⟨_, rfl, O.out, B.out⟩
end Go.Proofs.Ytehjfjplajimfaa
