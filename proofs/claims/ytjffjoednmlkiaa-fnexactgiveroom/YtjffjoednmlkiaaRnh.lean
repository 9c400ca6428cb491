/-
  A room is taken, of the model. Each contract says what it asks.
-/
import Derived.Test.YtjffjoednmlkiaaRng
namespace Go.Proofs.Ytjffjoednmlkiaa
open Go.RowKit Go.Maps Go.MapKept Go.ChangeMaps
set_option linter.unusedVariables false
set_option linter.unusedSimpArgs false

theorem RomV.headIn {w : World} {lo hi : Nat} {f h : Value} {m : List (List Int)} {hs : List Hl} (d : RomV w lo hi f h m hs) : ∀ k, f.ownBlock = some k → lo ≤ k ∧ k < hi := by
  obtain ⟨vs, mv⟩ := d.free
  exact fun k hk => ⟨(World.ownsRow.lt mv.head k hk).1, mv.top k hk⟩
set_option maxRecDepth 100000 in
set_option maxHeartbeats 3200000 in
theorem l14TakeNo_calls (f h : Value) (m : List (List Int)) (hs : List Hl) (s : Int) (w : World) (hf : RdM w f m) (hh : RdH w h hs) (m6 : m.length = 6) (hor : orP s) (h3 : ∀ o', ordN s ≤ o' → o' < 6 → m.getD o' [] = []) :
    Calls Try.prog 69 #[.agg #[f, h], .int .i64 s] w fun e w' => e = .returned (.tuple #[.agg #[f, h], .int .i64 (-1)]) ∧ Below w.heap.size w w' := by
  have LO := hide (l14Order_calls s hor.1 hor.2)
  have N5 := ordN_le s
  obtain ⟨N, hN⟩ : ∃ N, N = ordN s := ⟨_, rfl⟩
  rw [← hN] at LO h3 N5
  obtain ⟨af, cf, rfl, p1, p2⟩ := hf.sl
  obtain ⟨ah, ch, rfl, p3, p4⟩ := hh.sl
  have A0 := hide (Hand.twoN w #[.slice af m.length cf, .slice ah hs.length ch] nilR 29 29)
  have RF := hide (hf.below A0.out.below)
  have H6 := hide m6
  have H3 := hide h3
  clear hf hh h3 hN m6 hor p1 p2 p3 p4
  go_enter Try.func69, Try.ntmps69
  go_wp2_with fail
  refine (LO.out _).mono ?_
  rintro e w' ⟨rfl, rfl⟩
  clear LO
  obtain ⟨y0, y1⟩ := (A0.out.atBox 1 rfl).c2
  obtain ⟨e0, e1⟩ := (A0.out.atBox 0 rfl).c2
  have q0 := (A0.out.atBox 0 rfl).frozen 0
  have q1 := (A0.out.atBox 0 rfl).frozen 1
  have A1 := hide (Hand.twoN w #[.slice af m.length cf, .slice ah hs.length ch] #[.slice af m.length cf, .slice ah hs.length ch] 29 29)
  go_wp2_with fail
  go_loop [7] (fun v => ∃ k : Nat, N ≤ k ∧ k ≤ 6 ∧ v = .int .i64 (k : Int)) (fun v => 6 - (intOf v).toNat)
  case atStart => exact ⟨N, Nat.le_refl _, by omega, rfl⟩
  case round =>
    obtain ⟨k, hk1, hk2, rfl⟩ := hrel
    by_cases hlt : k < 6
    · have k5 : (k : Int) ≤ 5 := by omega
      have k6 : (k : Int) < (m.length : Int) := by have := H6.out; omega
      obtain ⟨bb, off, u, rfl, hc, hu⟩ := RF.out.row k (by have := H6.out; omega)
      rw [H3.out k hk1 hlt] at hu
      obtain ⟨ua, uc, rfl, u1, u2⟩ := hu.slc
      clear hu u1 u2
      go_wp2
      go_round
      case rel => exact ⟨k + 1, by omega, by omega, by go_num⟩
      case measure => simp [intOf]; omega
    · obtain rfl : k = 6 := by omega
      go_wp2
      exact bodyPost_ret (res_rm2 rfl _ _ (w.heap.size + 1) _ _ (0, 0) rfl (A1.out.atBox 0 rfl)) rfl ⟨rfl, A1.out.below⟩

end Go.Proofs.Ytjffjoednmlkiaa
