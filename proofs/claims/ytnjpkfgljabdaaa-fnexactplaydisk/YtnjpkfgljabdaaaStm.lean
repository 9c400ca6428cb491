/-
  Slices of steps of a call's own, marked: call by call. The contract says what it asks.
-/
import Derived.Test.YtnjpkfgljabdaaaSty
namespace Go.Proofs.Ytnjpkfgljabdaaa
open Go.RowKit
set_option linter.unusedVariables false

set_option linter.unusedSimpArgs false in
set_option maxRecDepth 100000 in
set_option maxHeartbeats 3200000 in
theorem markDiskStepS_calls (g : Nat) (xs : List Stp) (lo hi : Nat) (w : World) (h : TStx g xs lo hi w) (hz : xs.length + totX xs ≤ 1048576) :
    Calls Try.prog 33 #[.slice (some ⟨g, 0, none⟩) xs.length xs.length, .int .i64 1] w fun e w' => (∃ k : Nat, e = .returned (.int .i64 k)) ∧ TOld g xs.length lo hi w' ∧ Chg lo hi w w' := by
  obtain ⟨cs0, us, ks0, h, hs, hk, hT, hm⟩ := h
  have H0 := hide h
  have HK0 : Hid (∀ i, i < xs.length → (ks0.getD i []).length = (xs.getD i stp0).2.2.2.length) := fun i hi' => by rw [hk i hi']
  have HZ := hide hz
  have hn1 : xs.length ≤ 1048576 := by omega
  clear h hs hk hT hm hz
  go_enter Try.func33, Try.ntmps33
  go_wp2
  go_loopw [1, 5] (fun vk vi wr => ∃ (i k : Nat) (cs : Array Value) (ks : List (List Int)), i ≤ xs.length ∧ vi = .int .i64 i ∧ vk = .int .i64 k ∧ 0 < k ∧ k ≤ 1 + 3 * i + totX (xs.take i) ∧ XV wr lo hi g xs.length cs us ks ∧ (∀ j, j < xs.length → (ks.getD j []).length = (xs.getD j stp0).2.2.2.length) ∧ Chg lo hi w wr) (fun _ vi _ => xs.length - (intOf vi).toNat)
  case atStart => exact ⟨0, 1, cs0, ks0, Nat.zero_le _, rfl, rfl, by omega, by simp, H0.out, HK0.out, Chg.refl _ _ _⟩
  case round =>
    obtain ⟨i, k, cs, ks, hi', rfl, rfl, hk0, hk1, hm, hl, hc⟩ := hrel
    have M := hide hm
    have LL := hide hl
    have C := hide hc
    have K1 := hide hk1
    clear hm hl hc H0 HK0
    by_cases hlt : i < xs.length
    · have hlt' : (i : Int) < (xs.length : Int) := by omega
      have r1 := totX_row_le xs i hlt
      have r2 := totX_take_succ xs i hlt
      have r3 := LL.out i hlt
      have r4 := HZ.out
      have kb : k ≤ 5000000 := by omega
      have hln : (ks.getD i []).length ≤ 1048576 := by omega
      have KN : Hid (k + 1 + 1 + 1 + (ks.getD i []).length ≤ 1 + 3 * (i + 1) + totX (xs.take (i + 1))) := by show _ ≤ _; omega
      clear r1 r2 r3 r4 hk1
      obtain ⟨⟨x0, d0⟩, f0⟩ := M.out.some (i * 4) (by omega)
      obtain ⟨⟨x1, d1⟩, f1⟩ := M.out.some (i * 4 + 1) (by omega)
      have gl := M.out.glo
      have gh := M.out.ghi
      have P2 := hide ((M.out.put (i * 4) (.int .i64 k) (by omega)).put (i * 4 + 1) (.int .i64 ((k : Int) + 1)) (by omega))
      have cc : Chg lo hi wr ((wr.setCell ⟨g, i * 4, none⟩ (.int .i64 k)).setCell ⟨g, i * 4 + 1, none⟩ (.int .i64 ((k : Int) + 1))) :=
        (Chg.ofSetCell _ _ _ _ gl gh).trans (Chg.ofSetCell _ _ _ _ gl gh)
      have C2 := hide (C.out.trans cc)
      clear cc
      go_wp2_with fail
      clear d0 d1 f0 f1
      generalize (wr.setCell ⟨g, i * 4, none⟩ (.int .i64 k)).setCell ⟨g, i * 4 + 1, none⟩ (.int .i64 ((k : Int) + 1)) = w2 at *
      refine (markText_calls (k + 1 + 1) _ (by omega) (by omega)).mono ?_
      rintro e w3 ⟨rfl, b3⟩
      have P3 := hide (P2.out.below b3)
      have C3 := hide (C2.out.trans (Chg.ofBelow b3))
      clear b3 P2 C2
      obtain ⟨⟨x2, d2⟩, f2⟩ := P3.out.some (i * 4 + 2) (by omega)
      have P4 := hide (P3.out.put (i * 4 + 2) (.string (mt (k + 1 + 1))) (by omega))
      have C4 := hide (C3.out.trans (Chg.ofSetCell _ _ _ _ gl gh : Chg lo hi w3 (w3.setCell ⟨g, i * 4 + 2, none⟩ (.string (mt (k + 1 + 1))))))
      have d3 : (w3.setCell ⟨g, i * 4 + 2, none⟩ (.string (mt (k + 1 + 1)))).cell? ⟨g, i * 4 + 3, none⟩ = some (us.getD i nilRow) := by
        rw [P4.out.box.cell]
        exact P4.out.last i hlt
      have d3' : w3.cell? ⟨g, i * 4 + 3, none⟩ = some (us.getD i nilRow) := by
        rw [P3.out.box.cell]
        exact P3.out.last i hlt
      go_wp2_with fail
      clear d2 f2 d3 d3'
      generalize w3.setCell ⟨g, i * 4 + 2, none⟩ (.string (mt (k + 1 + 1))) = w4 at *
      have hc1 : Calls Try.prog 39 #[us.getD i nilRow, .int .i64 ((k : Int) + 1 + 1 + 1)] w4 fun e w' => e = .returned (.int .i64 ((k : Int) + 1 + 1 + 1 + (ks.getD i []).length)) ∧ Own w' lo (us.getD i nilRow) (marks ((k : Int) + 1 + 1 + 1) (ks.getD i []).length) ∧ w4.grownBy w' (us.getD i nilRow).ownBlock :=
        markIntS_calls _ (ks.getD i []) _ lo _ (P4.out.row i hlt) (by omega) (by omega) hln
      refine hc1.mono ?_
      rintro e w5 ⟨rfl, o5, g5⟩
      have P5 := hide (P4.out.write i hlt o5 g5)
      have C5 := hide (C4.out.trans (P4.out.writeChg i hlt g5))
      have szk := P4.out.lk
      have L5 : Hid (∀ j, j < xs.length → ((ks.set i (marks ((k : Int) + 1 + 1 + 1) (ks.getD i []).length)).getD j []).length = (xs.getD j stp0).2.2.2.length) := by
        intro j hj
        rw [getD_set _ _ _ _ _ (by rw [szk]; exact hlt)]
        by_cases e : j = i
        · subst e
          rw [if_pos rfl, marks_length]
          exact LL.out j hlt
        · rw [if_neg e]
          exact LL.out j hj
      clear o5 g5 szk hc1 P4 C4
      go_wp2
      go_roundw
      case rel => exact ⟨i + 1, k + 1 + 1 + 1 + (ks.getD i []).length, _, _, by omega, by go_num, by go_num, by omega, KN.out, P5.out, L5.out, C5.out⟩
      case measure => simp [intOf]; omega
    · obtain rfl : i = xs.length := by omega
      go_wp2
      go_ret
      exact ⟨⟨k, rfl⟩, ⟨cs, us, ks, M.out⟩, C.out⟩
end Go.Proofs.Ytnjpkfgljabdaaa
