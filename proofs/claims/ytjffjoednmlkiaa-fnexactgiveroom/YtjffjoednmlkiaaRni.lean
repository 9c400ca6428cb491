/-
  A number left out of a list, of the model. Each contract says what it asks.
-/
import Derived.Test.YtjffjoednmlkiaaRnh
namespace Go.Proofs.Ytjffjoednmlkiaa
open Go.RowKit
set_option linter.unusedVariables false
set_option linter.unusedSimpArgs false

set_option maxRecDepth 100000 in
set_option maxHeartbeats 1600000 in
theorem l14Drop_calls (v : Value) (xs : List Int) (n : Int) (w : World) (h : Rd w v xs) (hm : xs.length ≤ 1000) :
    Calls Try.prog 112 #[v, .int .i64 n] w fun e w' => ∃ v', e = .returned v' ∧ Own w' w.heap.size v' (xs.filter fun x => decide (x ≠ n)) ∧ Below w.heap.size w w' := by
  have R := hide h
  obtain ⟨au, cu, rfl, u1, u2⟩ := h.slc
  have O0 : Hid (Own w w.heap.size (.slice none 0 0) []) := World.ownsRow_nil _ _ _ _
  clear h u1 u2
  go_enter Try.func112, Try.ntmps112
  go_wp2_with fail
  go_loopw [5, 10] (fun vo vi wr => ∃ i : Nat, i ≤ xs.length ∧ vi = .int .i64 (i : Int) ∧ Own wr w.heap.size vo ((xs.take i).filter fun x => decide (x ≠ n)) ∧ Below w.heap.size w wr) (fun _ vi _ => xs.length - (intOf vi).toNat)
  case atStart => exact ⟨0, Nat.zero_le _, rfl, O0.out, Below.refl _ _⟩
  case round =>
    obtain ⟨i, hi, rfl, ho, hb⟩ := hrel
    have O := hide ho
    have B := hide hb
    clear ho hb O0
    by_cases hlt : i < xs.length
    · have hlt' : (i : Int) < (xs.length : Int) := by omega
      obtain ⟨b, off, rfl, hc⟩ := (R.out.below B.out).cellAt i hlt
      have TS := take_succ_getD xs i 0 hlt
      obtain ⟨x, hx⟩ : ∃ x, x = xs.getD i 0 := ⟨_, rfl⟩
      rw [← hx] at hc TS
      obtain ⟨ys, hys⟩ : ∃ ys, ys = (xs.take i).filter fun x => decide (x ≠ n) := ⟨_, rfl⟩
      have yl : ys.length ≤ 1000 := by
        rw [hys]
        have h1 := List.length_filter_le (fun x => decide (x ≠ n)) (xs.take i)
        have h2 : (xs.take i).length ≤ i := by simp; omega
        omega
      by_cases hxn : x = n
      · have FS : Hid ((xs.take (i + 1)).filter (fun x => decide (x ≠ n)) = ys) := by
          show _ = _
          rw [TS, List.filter_append, hys]
          simp [hxn]
        rw [← hys] at O
        have e0 : (x != n) = false := by simp [hxn]
        clear TS hys hx
        go_wp2
        go_roundw
        case rel => exact ⟨i + 1, by omega, by go_num, by rw [FS.out]; exact O.out, B.out⟩
        case measure => simp [intOf]; omega
      · have FS : Hid ((xs.take (i + 1)).filter (fun x => decide (x ≠ n)) = ys ++ [x]) := by
          show _ = _
          rw [TS, List.filter_append, hys]
          simp [hxn]
        rw [← hys] at O
        have e0 : (x != n) = true := by simp [hxn]
        have bb := below_box wr (.cells #[.int .i64 x] 3)
        have RX := hide (rd_one (BoxAt.new wr #[.int .i64 x] 3))
        have O2 := hide (rowsBelow O.out bb)
        have B2 := hide (B.out.trans (bb.mono B.out.size))
        have SB : Hid (w.heap.size ≤ (wr.alloc (.cells #[.int .i64 x] 3)).heap.size) := B2.out.size
        clear TS hys hx bb hxn
        go_wp2_with (at_builtin; refine wpList_app_int rfl _ _ rfl w.heap.size _ rfl ys O2.out (.slice (some ⟨wr.heap.size, 0, none⟩) 1 1) rfl [x] RX.out (by simp; omega) SB.out ?_)
        intro v7 w7 o7 g7 at7
        have O7 := hide o7
        have B7 := hide (B2.out.grown g7 B2.out.size (fun k hk => (World.ownsRow.lt O2.out k hk).1))
        clear o7 g7 at7
        go_wp2
        go_roundw
        case rel => exact ⟨i + 1, by omega, by go_num, by rw [FS.out]; exact O7.out, B7.out⟩
        case measure => simp [intOf]; omega
    · obtain rfl : i = xs.length := by omega
      rw [List.take_length] at O
      obtain ⟨av, n1, cv, rfl⟩ := O.out.shape
      go_wp2
      go_ret
      exact ⟨_, rfl, O.out, B.out⟩
end Go.Proofs.Ytjffjoednmlkiaa
