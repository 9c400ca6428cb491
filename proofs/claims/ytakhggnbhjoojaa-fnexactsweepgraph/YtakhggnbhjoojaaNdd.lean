/-
  Nodes of a call's own, marked, and looked through for the marks: call by call. Each contract says what it asks.
-/
import Derived.Test.YtakhggnbhjoojaaNdc
namespace Go.Proofs.Ytakhggnbhjoojaa
open Go.RowKit
set_option linter.unusedVariables false

/-- Nodes as they are marked. -/
def mkN : Nat → List Nd → List Nd
  | _, [] => []
  | k, x :: xs => (marks k x.1.length, decide (((k + x.1.length : Nat) : Int).tmod 3 = 0)) :: mkN (k + x.1.length + 1) xs
/-- The mark behind nodes. -/
def enN (k : Nat) (xs : List Nd) : Nat := k + totN xs + xs.length
theorem mkN_len : ∀ (k : Nat) (xs : List Nd), (mkN k xs).length = xs.length
  | _, [] => rfl
  | k, x :: xs => by simp [mkN, mkN_len]
theorem mkN_app : ∀ (k : Nat) (xs ys : List Nd), mkN k (xs ++ ys) = mkN k xs ++ mkN (enN k xs) ys
  | k, [], ys => by simp [mkN, enN, totN]
  | k, x :: xs, ys => by
    have e : enN (k + x.1.length + 1) xs = enN k (x :: xs) := by simp [enN, totN]; omega
    simp only [List.cons_append, mkN, mkN_app, e]
theorem enN_succ (k : Nat) (m : List Nd) (i : Nat) (h : i < m.length) : enN k (m.take (i + 1)) = enN k (m.take i) + (m.getD i nd0).1.length + 1 := by
  simp only [enN, totN_take_succ m i h, List.length_take]
  omega
theorem enN_le (k : Nat) (m : List Nd) (i : Nat) : enN k (m.take i) ≤ k + totN m + m.length := by
  have := totN_take_le m i
  simp only [enN, List.length_take]
  omega
/-- What is marked so far. -/
def mkNTo (k : Nat) (m : List Nd) (i : Nat) : List Nd := mkN k (m.take i) ++ m.drop i
theorem mkNTo_len (k : Nat) (m : List Nd) (i : Nat) (h : i ≤ m.length) : (mkNTo k m i).length = m.length := by simp [mkNTo, mkN_len]; omega
theorem mkNTo_get (k : Nat) (m : List Nd) (i : Nat) (h : i < m.length) : (mkNTo k m i).getD i nd0 = m.getD i nd0 := by
  have e1 : (mkN k (m.take i)).length = i := by rw [mkN_len]; simp; omega
  have := getD_app_right (mkN k (m.take i)) (m.drop i) i 0 nd0 e1
  rw [Nat.add_zero] at this
  unfold mkNTo
  rw [this]
  simp [List.getD_eq_getElem?_getD]
theorem mkNTo_step (k : Nat) (m : List Nd) (i : Nat) (h : i < m.length) :
    (mkNTo k m i).set i (marks (enN k (m.take i) : Nat) (m.getD i nd0).1.length, decide (((enN k (m.take i) + (m.getD i nd0).1.length : Nat) : Int).tmod 3 = 0)) = mkNTo k m (i + 1) := by
  have e1 : (mkN k (m.take i)).length = i := by rw [mkN_len]; simp; omega
  unfold mkNTo
  rw [List.set_append_right _ _ (by omega), e1, Nat.sub_self, List.drop_eq_getElem_cons h, List.set_cons_zero, List.take_succ_eq_append_getElem h, mkN_app, List.append_assoc]
  simp only [List.getD_eq_getElem?_getD, List.getElem?_eq_getElem h, Option.getD_some, mkN, List.singleton_append]
theorem mkNTo_end (k : Nat) (m : List Nd) : mkNTo k m m.length = mkN k m := by simp [mkNTo]
theorem mkN_get (k : Nat) (m : List Nd) (i : Nat) (h : i < m.length) : (mkN k m).getD i nd0 = (marks (enN k (m.take i) : Nat) (m.getD i nd0).1.length, decide (((enN k (m.take i) + (m.getD i nd0).1.length : Nat) : Int).tmod 3 = 0)) := by
  have e : m = m.take i ++ m.getD i nd0 :: m.drop (i + 1) := by
    have h2 : m.getD i nd0 = m[i] := by simp [List.getD_eq_getElem?_getD, List.getElem?_eq_getElem h]
    rw [h2, ← List.drop_eq_getElem_cons h, List.take_append_drop]
  have e1 : (mkN k (m.take i)).length = i := by rw [mkN_len]; simp; omega
  generalize hx : m.getD i nd0 = x at *
  have e2 : mkN k m = mkN k (m.take i) ++ mkN (enN k (m.take i)) (x :: m.drop (i + 1)) := by
    conv => lhs; rw [e]
    exact mkN_app _ _ _
  rw [e2]
  have := getD_app_right (mkN k (m.take i)) (mkN (enN k (m.take i)) (x :: m.drop (i + 1))) i 0 nd0 e1
  rw [Nat.add_zero i] at this
  rw [this]
  rfl

set_option linter.unusedSimpArgs false in
set_option maxRecDepth 100000 in
set_option maxHeartbeats 1600000 in
theorem markNodeS_calls (v : Value) (k0 : Nat) (m : List Nd) (es us : List Value) (qs : List (List Int)) (lo hi : Nat) (w : World) (h : NdV w lo hi v es us qs m) (hz : m.length + totN m ≤ 1048576) (hk : k0 ≤ 1099511627) :
    Calls Try.prog 22 #[v, .int .i64 k0] w fun e w' => e = .returned (.int .i64 (enN k0 m : Nat)) ∧ NdV w' lo hi v es us qs (mkN k0 m) ∧ Chg lo hi w w' := by
  by_cases h0 : m = []
  · subst h0
    have H := hide h
    obtain ⟨a, cap, rfl⟩ := h.slice
    clear h
    go_enter Try.func22, Try.ntmps22
    go_wp2
    refine wp_loop_rounds 1 ?_
    rw [rounds_succ]
    go_wp2
    go_ret
    exact ⟨by simp [enN, totN], H.out, Chg.refl _ _ _⟩
  have hpos : 0 < m.length := by
    rcases Nat.eq_zero_or_pos m.length with h1 | h1
    · exact absurd (List.eq_nil_of_length_eq_zero h1) h0
    · exact h1
  obtain ⟨g, cap, rfl, hlg, hgh, hgs, hnc, hcm⟩ := h.form hpos
  have H := hide h
  have HZ := hide hz
  have hn1 : m.length ≤ 1048576 := by omega
  have htot : totN m ≤ 1048576 := by omega
  clear h hz h0
  go_enter Try.func22, Try.ntmps22
  go_wp2
  go_loopw [1, 5] (fun vk vi wr => ∃ (i k : Nat), i ≤ m.length ∧ vi = .int .i64 i ∧ vk = .int .i64 k ∧ k = enN k0 (m.take i) ∧ NdV wr lo hi (.slice (some ⟨g, 0, none⟩) m.length cap) es us qs (mkNTo k0 m i) ∧ Chg lo hi w wr) (fun _ vi _ => m.length - (intOf vi).toNat)
  case atStart => exact ⟨0, k0, Nat.zero_le _, rfl, rfl, by simp [enN, totN], by simpa [mkNTo, mkN] using H.out, Chg.refl _ _ _⟩
  case round =>
    obtain ⟨i, k, hi', rfl, rfl, hkk, hm, hc⟩ := hrel
    have M := hide hm
    have C := hide hc
    have KK := hide hkk
    have kb : k ≤ 1102000000 := by
      have := enN_le k0 m i
      omega
    clear hm hc hkk H
    by_cases hlt : i < m.length
    · have hlt' : (i : Int) < (m.length : Int) := by omega
      have hlen := hide (mkNTo_len k0 m i hi')
      obtain ⟨d0, d1, f0, f1⟩ := M.out.cells i (by rw [hlen.out]; exact hlt)
      have hrow := M.out.row i (by rw [hlen.out]; exact hlt)
      rw [mkNTo_get k0 m i hlt] at hrow d1
      have hl : (m.getD i nd0).1.length ≤ 1048576 := by
        have := totN_row_le m i hlt
        omega
      obtain ⟨xs, hxs⟩ : ∃ xs, xs = (m.getD i nd0).1 := ⟨_, rfl⟩
      have HX := hide hxs
      rw [← hxs] at hrow hl
      have RW := hide hrow
      obtain ⟨ua, uc, hua⟩ := row_slice hrow
      have UA := hide hua
      rw [hua] at d0
      clear hrow hxs hua
      go_wp2_with fail
      have hc1 : Calls Try.prog 23 #[us.getD i nilRow, .int .i64 k] wr fun e w' => e = .returned (.int .i64 ((k : Int) + xs.length)) ∧ Own w' lo (us.getD i nilRow) (marks k xs.length) ∧ wr.grownBy w' (us.getD i nilRow).ownBlock :=
        markIntS_calls _ xs _ lo _ RW.out (by omega) (by omega) (by omega)
      rw [UA.out] at hc1
      refine hc1.mono ?_
      rintro e w1 ⟨rfl, o1, g1⟩
      rw [← UA.out] at o1 g1
      have P1 := M.out.write i (by rw [hlen.out]; exact hlt) o1 g1
      have C1 := hide (C.out.trans (M.out.writeChg i (by rw [hlen.out]; exact hlt) g1))
      obtain ⟨p0, p1, q0, q1⟩ := P1.cells i (by rw [List.length_set, hlen.out]; exact hlt)
      have P2 := P1.setGone i (by rw [List.length_set, hlen.out]; exact hlt) (decide (((k + xs.length : Nat) : Int).tmod 3 = 0))
      rw [List.set_set, getD_set _ _ _ _ _ (by rw [hlen.out]; exact hlt), if_pos rfl] at P2
      have e3 : (mkNTo k0 m i).set i (marks k xs.length, decide (((k + xs.length : Nat) : Int).tmod 3 = 0)) = mkNTo k0 m (i + 1) := by
        rw [← mkNTo_step k0 m i hlt, ← KK.out, ← HX.out]
      rw [e3] at P2
      have PP := hide P2
      have CC := hide (C1.out.trans (P1.setChg (j := i * 2 + 1) (.bool (decide (((k + xs.length : Nat) : Int).tmod 3 = 0)))))
      have KN : Hid (k + xs.length + 1 = enN k0 (m.take (i + 1))) := by
        show _ = _
        rw [enN_succ k0 m i hlt, ← KK.out, ← HX.out]
      clear o1 g1 hc1 P1 P2 e3 d0 d1 f0 f1 C1
      go_wp2
      go_roundw
      case rel => exact ⟨i + 1, k + xs.length + 1, by omega, by go_num, by go_num, KN.out, PP.out, CC.out⟩
      case measure => simp [intOf]; omega
    · obtain rfl : i = m.length := by omega
      have e1 := KK.out
      rw [List.take_length] at e1
      have E1 := hide e1
      clear e1
      go_wp2
      go_ret
      have := M.out
      rw [mkNTo_end] at this
      exact ⟨by rw [← E1.out]; rfl, this, C.out⟩

set_option maxRecDepth 100000 in
set_option maxHeartbeats 1600000 in
theorem heldNodeS_calls (v : Value) (k0 : Nat) (m : List Nd) (w : World) (h : RdN w v (mkN k0 m)) (hz : m.length + totN m ≤ 1048576) (hk : k0 ≤ 1099511627) :
    Calls Try.prog 75 #[v, .int .i64 k0] w fun e w' => e = .returned (.int .i64 (enN k0 m : Nat)) ∧ w = w' := by
  have R := hide h
  obtain ⟨a, cap, rfl, h1, h2, h3⟩ := h
  have hn1 : m.length ≤ 1048576 := by omega
  have htot : totN m ≤ 1048576 := by omega
  have LL := hide (mkN_len k0 m)
  rw [mkN_len]
  clear h1 h2 h3 hz
  go_enter Try.func75, Try.ntmps75
  go_wp2
  go_loop [1, 5] (fun vk vi => ∃ (i k : Nat), i ≤ m.length ∧ vi = .int .i64 i ∧ vk = .int .i64 k ∧ k = enN k0 (m.take i)) (fun _ vi => m.length - (intOf vi).toNat)
  case atStart => exact ⟨0, k0, Nat.zero_le _, rfl, rfl, by simp [enN, totN]⟩
  case round =>
    obtain ⟨i, k, hi', rfl, rfl, hkk⟩ := hrel
    have KK := hide hkk
    have kb : k ≤ 1102000000 := by
      have := enN_le k0 m i
      omega
    clear hkk
    by_cases hlt : i < m.length
    · have hlt' : (i : Int) < (m.length : Int) := by omega
      obtain ⟨b, off, u, ks, z, rfl, hx, hu, c0, c1⟩ := R.out.at i (by rw [LL.out]; exact hlt)
      rw [mkN_get k0 m i hlt, ← KK.out] at hx
      have hl : (m.getD i nd0).1.length ≤ 1048576 := by
        have := totN_row_le m i hlt
        omega
      obtain ⟨n, hn⟩ : ∃ n, n = (m.getD i nd0).1.length := ⟨_, rfl⟩
      have KN : Hid (k + n + 1 = enN k0 (m.take (i + 1))) := by
        show _ = _
        rw [enN_succ k0 m i hlt, ← KK.out, ← hn]
      rw [← hn] at hx hl
      obtain ⟨rfl, rfl⟩ : ks = marks k n ∧ z = decide (((k + n : Nat) : Int).tmod 3 = 0) := by
        simp only [Prod.mk.injEq] at hx
        exact ⟨hx.1.symm, hx.2.symm⟩
      have U := hide hu
      obtain ⟨ua, uc, rfl, _, _⟩ := U.out.slc
      have e5 : ¬ ((k : Int) + (n : Int) < 0) := by omega
      clear hx hu hn
      have et : ((k + n : Nat) : Int).tmod 3 = ((k : Int) + (n : Int)) % 3 := by
        rw [Int.tmod_eq_emod_of_nonneg (by omega)]; omega
      rw [et] at c1
      by_cases h3 : ((k : Int) + (n : Int)) % 3 = 0
      · rw [decide_eq_true h3] at c1
        go_wp2_with (go_at_call 32; refine (heldIntS_calls _ n _ _ U.out (by omega) (by omega) (by omega)).mono ?_; rintro e w' ⟨rfl, rfl⟩)
        exact ⟨⟨i + 1, k + n + 1, by omega, by go_num, by go_num, KN.out⟩, by simp [intOf]; omega⟩
      · rw [decide_eq_false h3] at c1
        go_wp2_with (go_at_call 32; refine (heldIntS_calls _ n _ _ U.out (by omega) (by omega) (by omega)).mono ?_; rintro e w' ⟨rfl, rfl⟩)
        exact ⟨⟨i + 1, k + n + 1, by omega, by go_num, by go_num, KN.out⟩, by simp [intOf]; omega⟩
    · obtain rfl : i = m.length := by omega
      have e1 := KK.out
      rw [List.take_length] at e1
      have E1 := hide e1
      clear e1
      go_wp2
      go_ret
      exact ⟨by rw [← E1.out]; rfl, rfl⟩
end Go.Proofs.Ytakhggnbhjoojaa
