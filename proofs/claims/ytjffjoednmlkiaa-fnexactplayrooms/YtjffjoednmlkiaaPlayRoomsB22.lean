/-
  A place left out of a list, of the model; parts of held rooms. Each contract says what it asks.
-/
import Derived.Test.YtjffjoednmlkiaaPlayRoomsB21
namespace Go.Proofs.Ytjffjoednmlkiaa
open Go.RowKit
set_option linter.unusedVariables false

theorem Rd.cutTo {w : World} {a : Option Addr} {n cap : Nat} {xs : List Int} (h : Rd w (.slice a n cap) xs) (k : Nat) (hk : k ≤ xs.length) : Rd w (.slice a k cap) (xs.take k) := by
  obtain ⟨a', cap', e, h1, h2, h3⟩ := h
  simp only [Value.slice.injEq] at e
  obtain ⟨rfl, _, rfl⟩ := e
  have hl : (xs.take k).length = k := by simp; omega
  refine ⟨a, cap, by rw [hl], by omega, h2, ?_⟩
  rcases h3 with rfl | ⟨b, off, rfl, hlt, hc⟩
  · exact .inl (by simp)
  · refine .inr ⟨b, off, rfl, hlt, fun i hi => ?_⟩
    rw [hl] at hi
    rw [getD_take _ _ _ _ hi]
    exact hc i (by omega)
theorem Rd.cutFrom {w : World} {b off n cap : Nat} {xs : List Int} (h : Rd w (.slice (some ⟨b, off, none⟩) n cap) xs) (k : Nat) (hk : k ≤ xs.length) (o2 : Nat) (ho : k < xs.length → o2 = off + k) : Rd w (.slice (some ⟨b, o2, none⟩) (xs.length - k) (cap - k)) (xs.drop k) := by
  obtain ⟨a', cap', e, h1, h2, h3⟩ := h
  simp only [Value.slice.injEq] at e
  obtain ⟨rfl, _, rfl⟩ := e
  have hl : (xs.drop k).length = xs.length - k := by simp
  refine ⟨_, cap - k, by rw [hl], by omega, ⟨by omega, fun e => by cases e⟩, ?_⟩
  by_cases hk2 : k < xs.length
  · rcases h3 with rfl | ⟨b', off', e', hlt, hc⟩
    · simp at hk2
    · simp only [Option.some.injEq, Addr.mk.injEq, and_true] at e'
      obtain ⟨rfl, rfl⟩ := e'
      obtain rfl := ho hk2
      refine .inr ⟨b, off + k, rfl, hlt, fun i hi => ?_⟩
      rw [hl] at hi
      rw [Nat.add_assoc, hc (k + i) (by omega)]
      simp [List.getD_eq_getElem?_getD]
  · exact .inl (List.eq_nil_of_length_eq_zero (by rw [hl]; omega))

set_option maxRecDepth 100000 in
set_option maxHeartbeats 1600000 in
theorem l10Without_calls (v : Value) (xs : List Int) (i : Nat) (w : World) (h : Rd w v xs) (hi : i < xs.length) (hm : xs.length ≤ 1000) :
    Calls Try.prog 122 #[v, .int .i64 (i : Int)] w fun e w' => ∃ v', e = .returned v' ∧ Own w' w.heap.size v' (xs.take i ++ xs.drop (i + 1)) ∧ Below w.heap.size w w' := by
  have R := hide h
  obtain ⟨b, off, cap, rfl, hcap⟩ : ∃ b off cap, v = .slice (some ⟨b, off, none⟩) xs.length cap ∧ (xs.length ≤ cap ∧ cap ≤ maxLen) := by
    obtain ⟨a, cap, rfl, h1, h2, h3⟩ := h
    rcases h3 with rfl | ⟨b, off, rfl, _⟩
    · simp at hi
    · exact ⟨b, off, cap, rfl, h1, h2.1⟩
  unfold maxLen at hcap
  have hb0 := below_box w (.cells #[] 3)
  have o0 : Own (w.alloc (.cells #[] 3)) w.heap.size (.slice (some ⟨w.heap.size, 0, none⟩) 0 0) [] := World.ownsRow_lit (base := w.heap.size) (e := 3) (size := 1) w #[] 0 (Nat.le_refl _) (Nat.zero_le _) rfl
  have O0 := hide o0
  have B0 := hide hb0
  have i0 : (0 : Int) ≤ (i : Int) := by omega
  have i1 : (i : Int) ≤ (xs.length : Int) := by omega
  have i2 : (i : Int) ≤ (cap : Int) := by omega
  have i3 : (i : Int) + 1 ≤ (xs.length : Int) := by omega
  have i4 : (i : Int) + 1 ≤ (cap : Int) := by omega
  clear h o0 hb0
  go_enter Try.func122, Try.ntmps122
  go_wp2_with (at_builtin; refine wpList_app_int rfl _ _ rfl w.heap.size (.slice (some ⟨w.heap.size, 0, none⟩) 0 0) rfl [] O0.out (.slice (some ⟨b, off, none⟩) i cap) rfl (xs.take i) ((R.out.below B0.out).cutTo i (by omega)) (by simp; omega) B0.out.size ?_)
  intro v1 w1 o1 g1 at1
  obtain ⟨a1, k1, hv1⟩ := row_slice o1
  obtain ⟨L1, hL1⟩ : ∃ L, L = (xs.take i).length := ⟨_, rfl⟩
  have hv1' : v1 = .slice a1 L1 k1 := by rw [hL1]; simpa using hv1
  clear hv1
  subst hv1'
  have o1' : Own w1 w.heap.size (.slice a1 L1 k1) (xs.take i) := by simpa using o1
  have O1 := hide o1'
  have b1 : Below w.heap.size w w1 := B0.out.grown g1 B0.out.size (fun k hk => by
    have e8 : w.heap.size = k := by simpa [Value.ownBlock] using hk
    omega)
  have B1 := hide b1
  clear o1 o1' g1 at1 b1 hL1
  by_cases hcc : i + 1 < cap
  · have RX := hide ((R.out.below B1.out).cutFrom (i + 1) (by omega) (off + (i + 1)) (fun _ => rfl))
    have hcc' : (i : Int) + 1 < (cap : Int) := by omega
    go_wp2_with (at_builtin; refine wpList_app_int rfl _ _ rfl w.heap.size (.slice a1 L1 k1) rfl (xs.take i) O1.out (.slice (some ⟨b, off + (i + 1), none⟩) (xs.length - (i + 1)) (cap - (i + 1))) rfl (xs.drop (i + 1)) RX.out (by simp; omega) B1.out.size ?_)
    intro v2 w2 o2 g2 at2
    have O2 := hide o2
    have B2 := hide (B1.out.grown g2 B1.out.size (fun k hk => (World.ownsRow.lt O1.out k hk).1))
    clear o2 g2 at2
    go_wp2
    go_ret
    exact ⟨_, rfl, O2.out, B2.out⟩
  · obtain rfl : cap = i + 1 := by omega
    have hnil : xs.drop (i + 1) = [] := List.drop_eq_nil_of_le (by omega)
    have RX : Hid (Rd w1 (.slice (some ⟨b, off, none⟩) (xs.length - (i + 1)) 0) (xs.drop (i + 1))) := by
      rw [hnil, show xs.length - (i + 1) = 0 from by omega]
      exact ⟨_, 0, rfl, Nat.le_refl _, ⟨Nat.zero_le _, fun _ => rfl⟩, .inl rfl⟩
    have RY : Hid (Rd w1 (.slice (some ⟨b, off, none⟩) 0 0) (xs.drop (i + 1))) := by
      rw [hnil]
      exact ⟨_, 0, rfl, Nat.le_refl _, ⟨Nat.zero_le _, fun _ => rfl⟩, .inl rfl⟩
    clear hcc i2 i4 hnil
    go_wp2_with (at_builtin; first
      | refine wpList_app_int rfl _ _ rfl w.heap.size (.slice a1 L1 k1) rfl (xs.take i) O1.out (.slice (some ⟨b, off, none⟩) (xs.length - (i + 1)) 0) rfl (xs.drop (i + 1)) RX.out (by simp; omega) B1.out.size ?_
      | refine wpList_app_int rfl _ _ rfl w.heap.size (.slice a1 L1 k1) rfl (xs.take i) O1.out (.slice (some ⟨b, off, none⟩) 0 0) rfl (xs.drop (i + 1)) RY.out (by simp; omega) B1.out.size ?_)
    intro v2 w2 o2 g2 at2
    have O2 := hide o2
    have B2 := hide (B1.out.grown g2 B1.out.size (fun k hk => (World.ownsRow.lt O1.out k hk).1))
    clear o2 g2 at2
    go_wp2
    go_ret
    exact ⟨_, rfl, O2.out, B2.out⟩
theorem RdH.cutTo {w : World} {a : Option Addr} {n cap : Nat} {xs : List Hl} (h : RdH w (.slice a n cap) xs) (k : Nat) (hk : k ≤ xs.length) : RdH w (.slice a k cap) (xs.take k) := by
  obtain ⟨a', cap', e, h1, h2, h3⟩ := h
  simp only [Value.slice.injEq] at e
  obtain ⟨rfl, _, rfl⟩ := e
  have hl : (xs.take k).length = k := by simp; omega
  refine ⟨a, cap, by rw [hl], by omega, h2, ?_⟩
  rcases h3 with rfl | ⟨b, off, rfl, hlt, hc⟩
  · exact .inl (by simp)
  · refine .inr ⟨b, off, rfl, hlt, fun i hi => ?_⟩
    rw [hl] at hi
    have e : (xs.take k).getD i hl0 = xs.getD i hl0 := by simp [List.getD_eq_getElem?_getD, hi]
    rw [e]
    exact hc i (by omega)
theorem RdH.cutFrom {w : World} {b off n cap : Nat} {xs : List Hl} (h : RdH w (.slice (some ⟨b, off, none⟩) n cap) xs) (k : Nat) (hk : k ≤ xs.length) (o2 : Nat) (ho : k < xs.length → o2 = off + k * 2) : RdH w (.slice (some ⟨b, o2, none⟩) (xs.length - k) (cap - k)) (xs.drop k) := by
  obtain ⟨a', cap', e, h1, h2, h3⟩ := h
  simp only [Value.slice.injEq] at e
  obtain ⟨rfl, _, rfl⟩ := e
  have hl : (xs.drop k).length = xs.length - k := by simp
  refine ⟨_, cap - k, by rw [hl], by omega, ⟨by omega, fun e => by cases e⟩, ?_⟩
  by_cases hk2 : k < xs.length
  · rcases h3 with rfl | ⟨b', off', e', hlt, hc⟩
    · simp at hk2
    · simp only [Option.some.injEq, Addr.mk.injEq, and_true] at e'
      obtain ⟨rfl, rfl⟩ := e'
      obtain rfl := ho hk2
      refine .inr ⟨b, off + k * 2, rfl, hlt, fun i hi => ?_⟩
      rw [hl] at hi
      have := hc (k + i) (by omega)
      rw [show off + (k + i) * 2 = off + k * 2 + i * 2 by omega] at this
      have e : (xs.drop k).getD i hl0 = xs.getD (k + i) hl0 := by simp [List.getD_eq_getElem?_getD]
      rw [e]
      exact this
  · exact .inl (List.eq_nil_of_length_eq_zero (by rw [hl]; omega))
/-- Where a held room is laid. -/
theorem putH_at (a o : Int) (hs : List Hl) (k : Nat) (hr : hs.Pairwise (fun x y => x.1 < y.1)) (hk : k ≤ hs.length) (h1 : ∀ j, j < k → (hs.getD j hl0).1 < a) (h2 : k < hs.length → ¬ (hs.getD k hl0).1 < a) (hn : ∀ o', (a, o') ∉ hs) : putH a o hs = hs.take k ++ [(a, o)] ++ hs.drop k := by
  have e1 : ∀ x ∈ hs.take k, x.1 < a := by
    intro x hx
    obtain ⟨j, hj, he⟩ := List.getElem_of_mem hx
    have hjk : j < k := by simp at hj; omega
    have := h1 j hjk
    rw [List.getElem_take] at he
    rw [List.getD_eq_getElem?_getD, List.getElem?_eq_getElem (by omega), Option.getD_some, he] at this
    exact this
  have e2 : ∀ x ∈ hs.drop k, a < x.1 := by
    intro x hx
    by_cases hkl : k < hs.length
    · have hd : hs.drop k = hs.getD k hl0 :: hs.drop (k + 1) := by
        rw [List.getD_eq_getElem?_getD, List.getElem?_eq_getElem hkl, Option.getD_some]
        exact List.drop_eq_getElem_cons hkl
      have hp : (hs.drop k).Pairwise (fun x y => x.1 < y.1) := hr.sublist (List.drop_sublist _ _)
      have h3 := h2 hkl
      have hne : (hs.getD k hl0).1 ≠ a := fun e => hn (hs.getD k hl0).2 (by rw [← e]; exact getD_memR hs k hl0 hkl)
      rw [hd] at hx hp
      rcases List.mem_cons.1 hx with rfl | hx
      · omega
      · have := (List.pairwise_cons.1 hp).1 x hx
        omega
    · rw [List.drop_eq_nil_of_le (by omega)] at hx
      simp at hx
  unfold putH
  have hsplit : hs = hs.take k ++ hs.drop k := (List.take_append_drop k hs).symm
  have f1 : hs.filter (fun x => decide (x.1 < a)) = hs.take k := by
    conv => lhs; rw [hsplit]
    rw [List.filter_append, List.filter_eq_self.2 (fun x hx => decide_eq_true (e1 x hx)), List.filter_eq_nil_iff.2 (fun x hx => by have := e2 x hx; simp; omega), List.append_nil]
  have f2 : hs.filter (fun x => decide (a < x.1)) = hs.drop k := by
    conv => lhs; rw [hsplit]
    rw [List.filter_append, List.filter_eq_nil_iff.2 (fun x hx => by have := e1 x hx; simp; omega), List.filter_eq_self.2 (fun x hx => decide_eq_true (e2 x hx)), List.nil_append]
  rw [f1, f2]
  simp
end Go.Proofs.Ytjffjoednmlkiaa
