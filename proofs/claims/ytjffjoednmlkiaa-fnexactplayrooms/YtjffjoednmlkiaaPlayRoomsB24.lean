/-
  A room is taken, of the model. Each contract says what it asks. A number left out of a list, of the model. Each contract says what it asks.
-/
import Derived.Test.YtjffjoednmlkiaaPlayRoomsB23
namespace Go.Proofs.Ytjffjoednmlkiaa
open Go.RowKit Go.Maps Go.MapKept Go.ChangeMaps
set_option linter.unusedVariables false
set_option linter.unusedSimpArgs false

theorem RomV.headIn {w : World} {lo hi : Nat} {f h : Value} {m : List (List Int)} {hs : List Hl} (d : RomV w lo hi f h m hs) : ∀ k, f.ownBlock = some k → lo ≤ k ∧ k < hi := by
  obtain ⟨vs, mv⟩ := d.free
  exact fun k hk => ⟨(World.ownsRow.lt mv.head k hk).1, mv.top k hk⟩
set_option maxRecDepth 100000 in
set_option maxHeartbeats 3200000 in
theorem l14TakeNo_calls (f h : Value) (m : List (List Int)) (hs : List Hl) (s : Int) (w : World) (hf : RdM w f m) (hh : RdH w h hs) (m6 : m.length = 6) (hor : orP s) (h3 : ∀ o', ordN s ≤ o' → o' < 6 → m.getD o' [] = []) :
    Calls Try.prog 69 #[.agg #[f, h], .int .i64 s] w fun e w' => e = .returned (.tuple #[.agg #[f, h], .int .i64 (-1)]) ∧ Below w.heap.size w w' := by
  have LO := hide (l14Order_calls s hor.1 hor.2)
  have N5 := ordN_le s
  obtain ⟨N, hN⟩ : ∃ N, N = ordN s := ⟨_, rfl⟩
  rw [← hN] at LO h3 N5
  obtain ⟨af, cf, rfl, p1, p2⟩ := hf.sl
  obtain ⟨ah, ch, rfl, p3, p4⟩ := hh.sl
  have A0 := hide (Hand.twoN w #[.slice af m.length cf, .slice ah hs.length ch] nilR 29 29)
  have RF := hide (hf.below A0.out.below)
  have H6 := hide m6
  have H3 := hide h3
  clear hf hh h3 hN m6 hor p1 p2 p3 p4
  go_enter Try.func69, Try.ntmps69
  go_wp2_with fail
  refine (LO.out _).mono ?_
  rintro e w' ⟨rfl, rfl⟩
  clear LO
  obtain ⟨y0, y1⟩ := (A0.out.atBox 1 rfl).c2
  obtain ⟨e0, e1⟩ := (A0.out.atBox 0 rfl).c2
  have q0 := (A0.out.atBox 0 rfl).frozen 0
  have q1 := (A0.out.atBox 0 rfl).frozen 1
  have A1 := hide (Hand.twoN w #[.slice af m.length cf, .slice ah hs.length ch] #[.slice af m.length cf, .slice ah hs.length ch] 29 29)
  go_wp2_with fail
  go_loop [7] (fun v => ∃ k : Nat, N ≤ k ∧ k ≤ 6 ∧ v = .int .i64 (k : Int)) (fun v => 6 - (intOf v).toNat)
  case atStart => exact ⟨N, Nat.le_refl _, by omega, rfl⟩
  case round =>
    obtain ⟨k, hk1, hk2, rfl⟩ := hrel
    by_cases hlt : k < 6
    · have k5 : (k : Int) ≤ 5 := by omega
      have k6 : (k : Int) < (m.length : Int) := by have := H6.out; omega
      obtain ⟨bb, off, u, rfl, hc, hu⟩ := RF.out.row k (by have := H6.out; omega)
      rw [H3.out k hk1 hlt] at hu
      obtain ⟨ua, uc, rfl, u1, u2⟩ := hu.slc
      clear hu u1 u2
      go_wp2
      go_round
      case rel => exact ⟨k + 1, by omega, by omega, by go_num⟩
      case measure => simp [intOf]; omega
    · obtain rfl : k = 6 := by omega
      go_wp2
      exact bodyPost_ret (res_rm2 rfl _ _ (w.heap.size + 1) _ _ (0, 0) rfl (A1.out.atBox 0 rfl)) rfl ⟨rfl, A1.out.below⟩

end Go.Proofs.Ytjffjoednmlkiaa

namespace Go.Proofs.Ytjffjoednmlkiaa
open Go.RowKit
set_option linter.unusedVariables false
set_option linter.unusedSimpArgs false

set_option maxRecDepth 100000 in
set_option maxHeartbeats 1600000 in
theorem l14Drop_calls (v : Value) (xs : List Int) (n : Int) (w : World) (h : Rd w v xs) (hm : xs.length ≤ 1000) :
    Calls Try.prog 112 #[v, .int .i64 n] w fun e w' => ∃ v', e = .returned v' ∧ Own w' w.heap.size v' (xs.filter fun x => decide (x ≠ n)) ∧ Below w.heap.size w w' := by
  have R := hide h
  obtain ⟨au, cu, rfl, u1, u2⟩ := h.slc
  have O0 : Hid (Own w w.heap.size (.slice none 0 0) []) := World.ownsRow_nil _ _ _ _
  clear h u1 u2
  go_enter Try.func112, Try.ntmps112
  go_wp2_with fail
  go_loopw [5, 10] (fun vo vi wr => ∃ i : Nat, i ≤ xs.length ∧ vi = .int .i64 (i : Int) ∧ Own wr w.heap.size vo ((xs.take i).filter fun x => decide (x ≠ n)) ∧ Below w.heap.size w wr) (fun _ vi _ => xs.length - (intOf vi).toNat)
  case atStart => exact ⟨0, Nat.zero_le _, rfl, O0.out, Below.refl _ _⟩
  case round =>
    obtain ⟨i, hi, rfl, ho, hb⟩ := hrel
    have O := hide ho
    have B := hide hb
    clear ho hb O0
    by_cases hlt : i < xs.length
    · have hlt' : (i : Int) < (xs.length : Int) := by omega
      obtain ⟨b, off, rfl, hc⟩ := (R.out.below B.out).cellAt i hlt
      have TS := take_succ_getD xs i 0 hlt
      obtain ⟨x, hx⟩ : ∃ x, x = xs.getD i 0 := ⟨_, rfl⟩
      rw [← hx] at hc TS
      obtain ⟨ys, hys⟩ : ∃ ys, ys = (xs.take i).filter fun x => decide (x ≠ n) := ⟨_, rfl⟩
      have yl : ys.length ≤ 1000 := by
        rw [hys]
        have h1 := List.length_filter_le (fun x => decide (x ≠ n)) (xs.take i)
        have h2 : (xs.take i).length ≤ i := by simp; omega
        omega
      by_cases hxn : x = n
      · have FS : Hid ((xs.take (i + 1)).filter (fun x => decide (x ≠ n)) = ys) := by
          show _ = _
          rw [TS, List.filter_append, hys]
          simp [hxn]
        rw [← hys] at O
        have e0 : (x != n) = false := by simp [hxn]
        clear TS hys hx
        go_wp2
        go_roundw
        case rel => exact ⟨i + 1, by omega, by go_num, by rw [FS.out]; exact O.out, B.out⟩
        case measure => simp [intOf]; omega
      · have FS : Hid ((xs.take (i + 1)).filter (fun x => decide (x ≠ n)) = ys ++ [x]) := by
          show _ = _
          rw [TS, List.filter_append, hys]
          simp [hxn]
        rw [← hys] at O
        have e0 : (x != n) = true := by simp [hxn]
        have bb := below_box wr (.cells #[.int .i64 x] 3)
        have RX := hide (rd_one (BoxAt.new wr #[.int .i64 x] 3))
        have O2 := hide (rowsBelow O.out bb)
        have B2 := hide (B.out.trans (bb.mono B.out.size))
        have SB : Hid (w.heap.size ≤ (wr.alloc (.cells #[.int .i64 x] 3)).heap.size) := B2.out.size
        clear TS hys hx bb hxn
        go_wp2_with (at_builtin; refine wpList_app_int rfl _ _ rfl w.heap.size _ rfl ys O2.out (.slice (some ⟨wr.heap.size, 0, none⟩) 1 1) rfl [x] RX.out (by simp; omega) SB.out ?_)
        intro v7 w7 o7 g7 at7
        have O7 := hide o7
        have B7 := hide (B2.out.grown g7 B2.out.size (fun k hk => (World.ownsRow.lt O2.out k hk).1))
        clear o7 g7 at7
        go_wp2
        go_roundw
        case rel => exact ⟨i + 1, by omega, by go_num, by rw [FS.out]; exact O7.out, B7.out⟩
        case measure => simp [intOf]; omega
    · obtain rfl : i = xs.length := by omega
      rw [List.take_length] at O
      obtain ⟨av, n1, cv, rfl⟩ := O.out.shape
      go_wp2
      go_ret
      exact ⟨_, rfl, O.out, B.out⟩
end Go.Proofs.Ytjffjoednmlkiaa
