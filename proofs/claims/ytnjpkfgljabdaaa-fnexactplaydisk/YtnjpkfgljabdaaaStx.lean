/-
  Slices of steps: what reads them; their measure, call by call. Each contract says what it asks.
-/
import Derived.Test.YtnjpkfgljabdaaaDxs
namespace Go.Proofs.Ytnjpkfgljabdaaa
open Go.RowKit
set_option linter.unusedVariables false

/-- A step: its Kind, At, Text and Kept. -/
abbrev Stp := Int × Int × ByteArray × List Int
def stp0 : Stp := (0, 0, ⟨#[]⟩, [])
/-- The value v is a slice that reads as these steps. -/
def RdX (w : World) (v : Value) (xs : List Stp) : Prop :=
  ∃ a cap, v = .slice a xs.length cap ∧ xs.length ≤ cap ∧ (cap ≤ maxLen ∧ (a = none → cap = 0)) ∧
    (xs = [] ∨ ∃ b off, a = some ⟨b, off, none⟩ ∧ b < w.heap.size ∧ ∀ i, i < xs.length → ∃ u, (xs.getD i stp0).2.2.1.size ≤ maxLen ∧ Rd w u (xs.getD i stp0).2.2.2 ∧
      w.cell? ⟨b, off + i * 4, none⟩ = some (.int .i64 (xs.getD i stp0).1) ∧ w.cell? ⟨b, off + i * 4 + 1, none⟩ = some (.int .i64 (xs.getD i stp0).2.1) ∧
      w.cell? ⟨b, off + i * 4 + 2, none⟩ = some (.string (xs.getD i stp0).2.2.1) ∧ w.cell? ⟨b, off + i * 4 + 3, none⟩ = some u)
theorem RdX.below {w w' : World} {v : Value} {xs : List Stp} (h : RdX w v xs) (hb : Below w.heap.size w w') : RdX w' v xs := by
  obtain ⟨a, cap, rfl, h1, h2, h3⟩ := h
  refine ⟨a, cap, rfl, h1, h2, ?_⟩
  rcases h3 with h3 | ⟨b, off, rfl, hlt, hc⟩
  · exact .inl h3
  · refine .inr ⟨b, off, rfl, Nat.lt_of_lt_of_le hlt hb.size, fun i hi => ?_⟩
    obtain ⟨u, hs, hu, c0, c1, c2, c3⟩ := hc i hi
    refine ⟨u, hs, hu.below hb, ?_, ?_, ?_, ?_⟩
    · rw [hb.cell hlt]; exact c0
    · rw [hb.cell hlt]; exact c1
    · rw [hb.cell hlt]; exact c2
    · rw [hb.cell hlt]; exact c3
theorem RdX.at {w : World} {a : Option Addr} {n cap : Nat} {xs : List Stp} (h : RdX w (.slice a n cap) xs) (i : Nat) (hi : i < xs.length) :
    ∃ b off K A T u ks, a = some ⟨b, off, none⟩ ∧ xs.getD i stp0 = (K, A, T, ks) ∧ T.size ≤ maxLen ∧ Rd w u ks ∧ w.cell? ⟨b, off + i * 4, none⟩ = some (.int .i64 K) ∧ w.cell? ⟨b, off + i * 4 + 1, none⟩ = some (.int .i64 A) ∧
      w.cell? ⟨b, off + i * 4 + 2, none⟩ = some (.string T) ∧ w.cell? ⟨b, off + i * 4 + 3, none⟩ = some u := by
  obtain ⟨a', cap', e, h1, h2, h3⟩ := h
  simp only [Value.slice.injEq] at e
  obtain ⟨rfl, _, rfl⟩ := e
  rcases h3 with rfl | ⟨b, off, rfl, hlt, hc⟩
  · simp at hi
  · obtain ⟨u, hs, hu, c0, c1, c2, c3⟩ := hc i hi
    exact ⟨b, off, _, _, _, u, _, rfl, rfl, hs, hu, c0, c1, c2, c3⟩
/-- How many bytes and places steps have. -/
def totX (xs : List Stp) : Nat := (xs.map fun s => s.2.2.1.size + s.2.2.2.length).sum
theorem totX_take_succ (m : List Stp) (k : Nat) (h : k < m.length) : totX (m.take (k + 1)) = totX (m.take k) + ((m.getD k stp0).2.2.1.size + (m.getD k stp0).2.2.2.length) := by
  simp only [totX]
  rw [List.take_succ_eq_append_getElem h, List.map_append, List.sum_append, List.getD_eq_getElem?_getD, List.getElem?_eq_getElem h]
  simp
theorem totX_app (a b : List Stp) : totX (a ++ b) = totX a + totX b := by simp [totX]
theorem totX_take_le (m : List Stp) (k : Nat) : totX (m.take k) ≤ totX m := by
  have : totX m = totX (m.take k) + totX (m.drop k) := by rw [← totX_app, List.take_append_drop]
  omega
theorem totX_row_le (m : List Stp) (k : Nat) (h : k < m.length) : totX (m.take k) + ((m.getD k stp0).2.2.1.size + (m.getD k stp0).2.2.2.length) ≤ totX m := by
  rw [← totX_take_succ m k h]; exact totX_take_le m (k + 1)

set_option maxRecDepth 100000 in
set_option maxHeartbeats 400000 in
theorem szIntS_is (v : Value) (xs : List Int) (l : Int) (w : World) (h : Rd w v xs) (h0 : 0 ≤ l) (hl : l ≤ 1048576) :
    Calls Try.prog 59 #[v, .int .i64 l] w fun e w' => e = .returned (.int .i64 (if (xs.length : Int) ≤ l then l - xs.length else -1)) ∧ w = w' := by
  obtain ⟨a, cap, rfl, h1, h2, h3⟩ := h
  have hm : xs.length ≤ maxLen := by omega
  unfold maxLen at hm
  clear h3 h2 h1
  by_cases hc : (xs.length : Int) ≤ l
  · rw [if_pos hc]
    have e : ¬ (l - (xs.length : Int) < 0) := by omega
    go_enter Try.func59, Try.ntmps59
    go_wp2
    go_ret
    exact ⟨rfl, rfl⟩
  · rw [if_neg hc]
    have e : l - (xs.length : Int) < 0 := by omega
    go_enter Try.func59, Try.ntmps59
    go_wp2
    go_ret
    exact ⟨rfl, rfl⟩

set_option maxRecDepth 100000 in
set_option maxHeartbeats 800000 in
theorem szDiskStep_is (K A : Int) (T : ByteArray) (v : Value) (ks : List Int) (l : Int) (w : World) (hT : T.size ≤ maxLen) (h : Rd w v ks) (h0 : 0 ≤ l) (hl : l ≤ 1048576) :
    Calls Try.prog 21 #[.agg #[.int .i64 K, .int .i64 A, .string T, v], .int .i64 l] w fun e w' => e = .returned (.int .i64 (if (T.size : Int) + (ks.length : Int) ≤ l then l - T.size - ks.length else -1)) ∧ Below w.heap.size w w' := by
  have b0 := below_box w (.cells #[.int .i64 K, .int .i64 A, .string T, v] 41)
  have RV := hide (h.below b0)
  have B0 := hide b0
  clear b0 h
  unfold maxLen at hT
  by_cases hc : (T.size : Int) ≤ l
  case neg =>
    have e : l - (T.size : Int) < 0 := by omega
    rw [if_neg (by omega)]
    go_enter Try.func21, Try.ntmps21
    go_wp2
    go_ret
    exact ⟨rfl, B0.out⟩
  have e : ¬ (l - (T.size : Int) < 0) := by omega
  by_cases hd : (ks.length : Int) ≤ l - (T.size : Int)
  · rw [if_pos (by omega)]
    have e2 : ¬ (l - (T.size : Int) - (ks.length : Int) < 0) := by omega
    go_enter Try.func21, Try.ntmps21
    go_wp2_with (go_at_call 59; refine (szIntS_is _ ks _ _ RV.out (by omega) (by omega)).mono ?_; rw [if_pos hd]; rintro e w' ⟨rfl, rfl⟩)
    go_ret
    exact ⟨rfl, B0.out⟩
  · rw [if_neg (by omega)]
    go_enter Try.func21, Try.ntmps21
    go_wp2_with (go_at_call 59; refine (szIntS_is _ ks _ _ RV.out (by omega) (by omega)).mono ?_; rw [if_neg hd]; rintro e w' ⟨rfl, rfl⟩)
    go_ret
    exact ⟨rfl, B0.out⟩

set_option maxRecDepth 100000 in
set_option maxHeartbeats 1600000 in
theorem szDiskStepS_calls (v : Value) (m : List Stp) (w : World) (h : RdX w v m) :
    Calls Try.prog 27 #[v, .int .i64 1048576] w fun e w' => (∃ r : Int, e = .returned (.int .i64 r) ∧ (r < 0 ∨ m.length + totX m ≤ 1048576)) ∧ Below w.heap.size w w' := by
  have R := hide h
  obtain ⟨a, cap, rfl, h1, h2, h3⟩ := h
  have hm : m.length ≤ maxLen := by omega
  unfold maxLen at hm
  clear h3 h2 h1
  by_cases hc : (m.length : Int) ≤ 1048576
  case neg =>
    have e : (1048576 : Int) - (m.length : Int) < 0 := by omega
    go_enter Try.func27, Try.ntmps27
    go_wp2
    go_ret
    exact ⟨⟨_, rfl, .inl (by decide)⟩, Below.refl _ _⟩
  have e : ¬ ((1048576 : Int) - (m.length : Int) < 0) := by omega
  go_enter Try.func27, Try.ntmps27
  go_wp2
  go_loopw [1, 5] (fun vl vi wr => ∃ (k t : Nat), k ≤ m.length ∧ vi = .int .i64 k ∧ t = totX (m.take k) ∧ (m.length : Int) + t ≤ 1048576 ∧ vl = .int .i64 (1048576 - m.length - t) ∧ Below w.heap.size w wr) (fun _ vi _ => m.length - (intOf vi).toNat)
  case atStart => exact ⟨0, 0, Nat.zero_le _, rfl, by simp [totX], by omega, by go_num, Below.refl _ _⟩
  case round =>
    obtain ⟨k, t, hk, rfl, ht, htl, rfl, hb⟩ := hrel
    have Ht := hide ht
    have HB := hide hb
    clear ht hb
    by_cases hlt : k < m.length
    · obtain ⟨b, off, K, A, T, u, ks, rfl, hs, hTm, hu, c0, c1, c2, c3⟩ := (R.out.below HB.out).at k hlt
      have U := hide hu
      have hs1 := totX_take_succ m k hlt
      have hs2 := totX_row_le m k hlt
      rw [hs, ← Ht.out] at hs1 hs2
      have Hs := hide hs1
      have Hs2 := hide hs2
      have HS := hide hs
      clear hs1 hs2 hu hs
      have hlt' : (k : Int) < (m.length : Int) := by omega
      by_cases hf : (T.size : Int) + (ks.length : Int) ≤ 1048576 - (m.length : Int) - (t : Int)
      · have e2 : ¬ ((1048576 : Int) - (m.length : Int) - (t : Int) - (T.size : Int) - (ks.length : Int) < 0) := by omega
        go_wp2_with (go_at_call 21; refine (szDiskStep_is K A T _ ks _ _ hTm U.out (by omega) (by omega)).mono ?_; rw [if_pos hf]; rintro e w' ⟨rfl, q⟩; have HB2 := hide (HB.out.trans (q.mono HB.out.size)); clear q)
        exact ⟨⟨k + 1, t + (T.size + ks.length), by omega, by go_num, Hs.out.symm, by omega, by go_num, HB2.out⟩, by simp [intOf]; omega⟩
      · go_wp2_with (go_at_call 21; refine (szDiskStep_is K A T _ ks _ _ hTm U.out (by omega) (by omega)).mono ?_; rw [if_neg hf]; rintro e w' ⟨rfl, q⟩; have HB2 := hide (HB.out.trans (q.mono HB.out.size)); clear q)
        go_ret
        exact ⟨⟨_, rfl, .inl (by decide)⟩, HB2.out⟩
    · obtain rfl : k = m.length := by omega
      have h1 := Ht.out
      rw [List.take_length] at h1
      have H1 : Hid (m.length + totX m ≤ 1048576) := by show _ ≤ _; omega
      clear h1 htl
      go_wp2
      go_ret
      exact ⟨⟨_, rfl, .inr H1.out⟩, HB.out⟩
end Go.Proofs.Ytnjpkfgljabdaaa
