/-
  Slices of steps handed over, held against others and marked: call by call. Each contract says what it asks.
-/
import Derived.Test.YtnjpkfgljabdaaaStw
namespace Go.Proofs.Ytnjpkfgljabdaaa
open Go.RowKit
set_option linter.unusedVariables false

theorem SaysX.step {cs : Array Value} {xs : List Stp} {k n : Nat} {K A : Int} {T : ByteArray} {ks : List Int} (h : SaysX cs xs k) (hs : cs.size = n * 4) (hk : k < n) (hx : xs.getD k stp0 = (K, A, T, ks)) (u : Value) :
    SaysX ((((cs.setIfInBounds (k * 4) (.int .i64 K)).setIfInBounds (k * 4 + 1) (.int .i64 A)).setIfInBounds (k * 4 + 2) (.string T)).setIfInBounds (k * 4 + 3) u) xs (k + 1) := by
  intro i hi
  by_cases e : i = k
  · subst e
    rw [hx]
    refine ⟨?_, ?_, ?_⟩
    · rw [Array.getElem?_setIfInBounds_ne (by omega), Array.getElem?_setIfInBounds_ne (by omega), Array.getElem?_setIfInBounds_ne (by omega), Array.getElem?_setIfInBounds_self_of_lt (by omega)]
    · rw [Array.getElem?_setIfInBounds_ne (by omega), Array.getElem?_setIfInBounds_ne (by omega), Array.getElem?_setIfInBounds_self_of_lt (by simp; omega)]
    · rw [Array.getElem?_setIfInBounds_ne (by omega), Array.getElem?_setIfInBounds_self_of_lt (by simp; omega)]
  · obtain ⟨h0, h1, h2⟩ := h i (by omega)
    refine ⟨?_, ?_, ?_⟩
    · rw [Array.getElem?_setIfInBounds_ne (by omega), Array.getElem?_setIfInBounds_ne (by omega), Array.getElem?_setIfInBounds_ne (by omega), Array.getElem?_setIfInBounds_ne (by omega)]; exact h0
    · rw [Array.getElem?_setIfInBounds_ne (by omega), Array.getElem?_setIfInBounds_ne (by omega), Array.getElem?_setIfInBounds_ne (by omega), Array.getElem?_setIfInBounds_ne (by omega)]; exact h1
    · rw [Array.getElem?_setIfInBounds_ne (by omega), Array.getElem?_setIfInBounds_ne (by omega), Array.getElem?_setIfInBounds_ne (by omega), Array.getElem?_setIfInBounds_ne (by omega)]; exact h2
theorem XV.some {w : World} {lo hi g n : Nat} {cs : Array Value} {us : List Value} {ks : List (List Int)} (h : XV w lo hi g n cs us ks) (p : Nat) (hp : p < n * 4) : (∃ x, w.cell? ⟨g, p, none⟩ = some x) ∧ w.frozen? ⟨g, p, none⟩ = false := by
  refine ⟨⟨cs[p]'(by rw [h.size]; exact hp), ?_⟩, h.box.frozen p⟩
  rw [h.box.cell, Array.getElem?_eq_getElem]

set_option linter.unusedSimpArgs false in
set_option maxRecDepth 100000 in
set_option maxHeartbeats 1600000 in
theorem toDiskStepS_calls (v : Value) (m : List Stp) (w : World) (h : RdX w v m) (hn : m.length + totX m ≤ 1048576) :
    Calls Try.prog 29 #[v] w fun e w' => ∃ g, e = .returned (.slice (some ⟨g, 0, none⟩) m.length m.length) ∧ TStx g m w.heap.size w'.heap.size w' ∧ Below w.heap.size w w' := by
  have R := hide h
  obtain ⟨a, cap, rfl, h1, h2, h3⟩ := h
  clear h3 h2 h1
  have hn1 : m.length ≤ 1048576 := by omega
  have Hn := hide hn
  clear hn
  go_enter Try.func29, Try.ntmps29
  go_wp2_with (at_make; refine wpList_make_stps rfl _ _ rfl _ _ m.length rfl rfl (by omega) (by omega) hn1 ?_)
  intro w0 cs0 hm0 hg0
  have M0 := hide hm0
  have G0 := hide hg0
  clear hm0 hg0
  go_wp2
  go_loopw [4] (fun vi wr => ∃ (k : Nat) (cs : Array Value) (us : List Value) (ks : List (List Int)), k ≤ m.length ∧ vi = .int .i64 k ∧ XV wr w.heap.size wr.heap.size w.heap.size m.length cs us ks ∧ SaysX cs m k ∧ (∀ i, i < k → ks.getD i [] = (m.getD i stp0).2.2.2) ∧ Below w.heap.size w wr) (fun vi _ => m.length - (intOf vi).toNat)
  case atStart => exact ⟨0, cs0, _, _, Nat.zero_le _, rfl, M0.out, fun i hi => by omega, fun i hi => by omega, (Below.refl _ _).grown G0.out (Nat.le_refl _) (fun k h => by cases h)⟩
  case round =>
    obtain ⟨k, cs, us, ls, hk, rfl, hm, hs, hl, hb⟩ := hrel
    have M := hide hm
    have S := hide hs
    have LL := hide hl
    have B := hide hb
    clear hm hs hl hb M0 G0
    by_cases hlt : k < m.length
    · obtain ⟨b, off, K, A, T, u, ks, rfl, hx, hTm, hu, c0, c1, c2, c3⟩ := (R.out.below B.out).at k hlt
      have U := hide hu
      have HX := hide hx
      have hr : totX (m.take k) + (T.size + ks.length) ≤ totX m := by
        have hr := totX_row_le m k hlt
        rw [hx] at hr
        exact hr
      have hks : ks.length ≤ 1048576 := by have := Hn.out; omega
      clear hu hx hr
      have hlt' : (k : Int) < (m.length : Int) := by omega
      obtain ⟨ua, uc, rfl, _, _⟩ := U.out.sl
      go_wp2_with fail
      refine (toDiskStep_calls K A T _ ks _ U.out hks).mono ?_
      rintro e w1 ⟨x, rfl, hx, hb1⟩
      obtain ⟨xa, xc, rfl⟩ := row_slice hx
      have M1 := hide (M.out.below hb1)
      obtain ⟨⟨x0, d0⟩, f0⟩ := M1.out.some (k * 4) (by omega)
      obtain ⟨⟨x1, d1⟩, f1⟩ := M1.out.some (k * 4 + 1) (by omega)
      obtain ⟨⟨x2, d2⟩, f2⟩ := M1.out.some (k * 4 + 2) (by omega)
      obtain ⟨⟨x3, d3⟩, f3⟩ := M1.out.some (k * 4 + 3) (by omega)
      have gl := M.out.ghi
      have P := hide (((M1.out.put (k * 4) (.int .i64 K) (by omega)).put (k * 4 + 1) (.int .i64 A) (by omega)).put (k * 4 + 2) (.string T) (by omega))
      have cc : Chg w.heap.size (w.heap.size + 1) w1 (((w1.setCell ⟨w.heap.size, k * 4, none⟩ (.int .i64 K)).setCell ⟨w.heap.size, k * 4 + 1, none⟩ (.int .i64 A)).setCell ⟨w.heap.size, k * 4 + 2, none⟩ (.string T)) :=
        ((Chg.ofSetCell _ _ _ _ (Nat.le_refl _) (by omega)).trans (Chg.ofSetCell _ _ _ _ (Nat.le_refl _) (by omega))).trans (Chg.ofSetCell _ _ _ _ (Nat.le_refl _) (by omega))
      have Q4 := hide (P.out.putLast k hlt (ownsRow_chg hx (row_top hx) cc (.inr (by omega))) (Nat.le_refl _))
      have SS := hide (S.out.step M.out.size hlt HX.out (.slice xa ks.length xc))
      have B1 := hide hb1
      have szk := M.out.lk
      have L2 : Hid (∀ i, i < k + 1 → (ls.set k ks).getD i [] = (m.getD i stp0).2.2.2) := by
        intro i hi
        rw [getD_set _ _ _ _ _ (by rw [szk]; exact hlt)]
        by_cases e : i = k
        · subst e
          rw [if_pos rfl, HX.out]
        · rw [if_neg e]
          exact LL.out i (by omega)
      clear hb1 cc hx P M1 gl szk LL S M
      go_wp2
      go_roundw
      case rel =>
        refine ⟨k + 1, _, us.set k (.slice xa ks.length xc), ls.set k ks, by omega, by go_num, ?_, SS.out, L2.out, ?_⟩
        · simpa using Q4.out
        · exact ((((B.out.trans (B1.out.mono B.out.size)).setCell (Nat.le_refl _) _).setCell (Nat.le_refl _) _).setCell (Nat.le_refl _) _).setCell (Nat.le_refl _) _
      case measure => simp [intOf]; omega
    · obtain rfl : k = m.length := by omega
      go_wp2
      go_ret
      refine ⟨_, rfl, ⟨cs, us, ls, M.out, S.out, LL.out, fun i hi => ?_, by unfold maxLen; omega⟩, B.out⟩
      have := totX_row_le m i hi
      have := Hn.out
      unfold maxLen
      omega

set_option maxRecDepth 100000 in
set_option maxHeartbeats 1600000 in
theorem eqDiskStepS_same (v1 v2 : Value) (m : List Stp) (w : World) (h1 : RdX w v1 m) (h2 : RdX w v2 m) :
    Calls Try.prog 32 #[v1, v2] w fun e w' => e = .returned (.bool true) ∧ Below w.heap.size w w' := by
  have R1 := hide h1
  have R2 := hide h2
  obtain ⟨a1, k1, rfl, _, m1, _⟩ := h1
  obtain ⟨a2, k2, rfl, _, _, _⟩ := h2
  have hm : m.length ≤ maxLen := by omega
  unfold maxLen at hm
  clear m1
  go_enter Try.func32, Try.ntmps32
  go_wp2
  go_loopw [5] (fun vi wr => ∃ (k : Nat), k ≤ m.length ∧ vi = .int .i64 k ∧ Below w.heap.size w wr) (fun vi _ => m.length - (intOf vi).toNat)
  case atStart => exact ⟨0, Nat.zero_le _, rfl, Below.refl _ _⟩
  case round =>
    obtain ⟨k, hk, rfl, hb⟩ := hrel
    have B := hide hb
    clear hb
    by_cases hlt : k < m.length
    · obtain ⟨b, off, K, A, T, u, ks, rfl, hx, hTm, hu, c0, c1, c2, c3⟩ := (R1.out.below B.out).at k hlt
      obtain ⟨b', off', K', A', T', u', ks', rfl, hx', _, hu', d0, d1, d2, d3⟩ := (R2.out.below B.out).at k hlt
      rw [hx] at hx'
      obtain ⟨rfl, rfl, rfl, rfl⟩ : K = K' ∧ A = A' ∧ T = T' ∧ ks = ks' := by simpa using hx'
      have U := hide hu
      have U' := hide hu'
      have hlt' : (k : Int) < (m.length : Int) := by omega
      obtain ⟨ua, uc, rfl, _, _⟩ := U.out.sl
      obtain ⟨ua', uc', rfl, _, _⟩ := U'.out.sl
      have F : Hid (∀ w', Below wr.heap.size wr w' → (w'.cell? ⟨b, off + k * 4, none⟩ = some (.int .i64 K) ∧ w'.cell? ⟨b, off + k * 4 + 1, none⟩ = some (.int .i64 A) ∧ w'.cell? ⟨b, off + k * 4 + 2, none⟩ = some (.string T) ∧ w'.cell? ⟨b, off + k * 4 + 3, none⟩ = some (.slice ua ks.length uc)) ∧ (w'.cell? ⟨b', off' + k * 4, none⟩ = some (.int .i64 K) ∧ w'.cell? ⟨b', off' + k * 4 + 1, none⟩ = some (.int .i64 A) ∧ w'.cell? ⟨b', off' + k * 4 + 2, none⟩ = some (.string T) ∧ w'.cell? ⟨b', off' + k * 4 + 3, none⟩ = some (.slice ua' ks.length uc'))) := by
        intro w' hb
        have hc : ∀ (b p : Nat) (x : Value), wr.cell? ⟨b, p, none⟩ = some x → w'.cell? ⟨b, p, none⟩ = some x := fun b p x hx => by
          have hlt : b < wr.heap.size := by
            unfold World.cell? at hx
            cases hh : wr.heap[b]? with
            | none => simp [hh] at hx
            | some o => exact (Array.getElem?_eq_some_iff.1 hh).1
          rw [hb.cell hlt]; exact hx
        exact ⟨⟨hc _ _ _ c0, hc _ _ _ c1, hc _ _ _ c2, hc _ _ _ c3⟩, hc _ _ _ d0, hc _ _ _ d1, hc _ _ _ d2, hc _ _ _ d3⟩
      clear hx hx' hu hu' c0 c1 c2 c3 d0 d1 d2 d3
      go_wp2
      go_region_held3 (fun w' => (w'.cell? ⟨b, off + k * 4, none⟩ = some (.int .i64 K) ∧ w'.cell? ⟨b, off + k * 4 + 1, none⟩ = some (.int .i64 A) ∧ w'.cell? ⟨b, off + k * 4 + 2, none⟩ = some (.string T) ∧ w'.cell? ⟨b, off + k * 4 + 3, none⟩ = some (.slice ua ks.length uc)) ∧ (w'.cell? ⟨b', off' + k * 4, none⟩ = some (.int .i64 K) ∧ w'.cell? ⟨b', off' + k * 4 + 1, none⟩ = some (.int .i64 A) ∧ w'.cell? ⟨b', off' + k * 4 + 2, none⟩ = some (.string T) ∧ w'.cell? ⟨b', off' + k * 4 + 3, none⟩ = some (.slice ua' ks.length uc'))) (first | exact F.out _ (Below.refl _ _).drew | exact F.out _ B1.out)
        ((go_at_call 25; refine (eqDiskStep_same K A T _ _ ks _ (U.out.below (Below.refl _ _).drew) (U'.out.below (Below.refl _ _).drew)).mono ?_; rintro e' wr7 ⟨rfl, b7⟩; have B1 := hide ((Below.refl wr.heap.size wr).drew.trans b7); clear b7))
      go_wp2
      go_roundw
      case rel => exact ⟨k + 1, by omega, by go_num, B.out.trans (B1.out.mono B.out.size)⟩
      case measure => simp [intOf]; omega
    · obtain rfl : k = m.length := by omega
      go_wp2
      go_ret
      exact ⟨rfl, B.out⟩
end Go.Proofs.Ytnjpkfgljabdaaa
