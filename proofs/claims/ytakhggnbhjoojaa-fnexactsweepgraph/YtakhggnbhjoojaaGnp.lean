/-
  One place of a list is left out: slices.Delete at a row of the call's own, and the model's l10Without, call by call. Each contract says what it asks.
-/
import Derived.Test.YtakhggnbhjoojaaGno
import Derived.Test.YtakhggnbhjoojaaDel
namespace Go.Proofs.Ytakhggnbhjoojaa
open Go.RowKit
set_option linter.unusedVariables false

/-- A row's places, one after the other, are written. -/
def setL : List Value → Nat → List Value → List Value
  | xs, _, [] => xs
  | xs, o, v :: r => setL (xs.set o v) (o + 1) r
theorem setL_len : ∀ (vs xs : List Value) (o : Nat), (setL xs o vs).length = xs.length
  | [], xs, o => rfl
  | v :: r, xs, o => by simp only [setL, setL_len r, List.length_set]
theorem setL_all : ∀ (vs xs : List Value) (o : Nat), o + vs.length = xs.length → setL xs o vs = xs.take o ++ vs
  | [], xs, o, h => by simp at h; simp [setL, h]
  | v :: r, xs, o, h => by
    simp only [setL]
    rw [setL_all r (xs.set o v) (o + 1) (by simp at h ⊢; omega)]
    have h1 : o < xs.length := by simp at h; omega
    rw [List.take_succ_eq_append_getElem (by simpa using h1), List.take_set, List.set_eq_of_length_le (by simp; omega)]
    simp
theorem own_setCells {base g n cap : Nat} {e : TypeId} : ∀ (vs : List Value) (o : Nat) (w : World) (xs : List Value), w.ownsRow base e 1 (.slice (some ⟨g, 0, none⟩) n cap) n xs → (w.setCells g o vs).ownsRow base e 1 (.slice (some ⟨g, 0, none⟩) n cap) n (setL xs o vs) ∧ w.grownBy (w.setCells g o vs) (some g)
  | [], o, w, xs, h => ⟨h, World.grownBy.refl _ _⟩
  | v :: r, o, w, xs, h => by
    have st := World.ownsRow.stored h o v
    have := own_setCells r (o + 1) _ _ st.1
    exact ⟨this.1, grown_tr st.2 this.2⟩
theorem own_cut {w : World} {base g n cap k : Nat} {e : TypeId} {xs : List Value} (h : w.ownsRow base e 1 (.slice (some ⟨g, 0, none⟩) n cap) n xs) (hk : k ≤ n) : w.ownsRow base e 1 (.slice (some ⟨g, 0, none⟩) k cap) k (xs.take k) := by
  have h1 := h.1
  rcases h.2 with ⟨h', _⟩ | ⟨g', cap', cur, h', hb, hg, hnc, hcm, hcs, ht⟩
  · simp at h'
  · simp only [Value.slice.injEq, Option.some.injEq, Addr.mk.injEq, and_true, true_and] at h'
    obtain ⟨rfl, rfl⟩ := h'
    refine ⟨by simp; omega, .inr ⟨g, cap, cur, rfl, hb, hg, by omega, hcm, hcs, ?_⟩⟩
    rw [← ht, List.take_take]
    congr 1
    omega
theorem delete_calls (g cap i lo : Nat) (xs : List Int) (w : World) (h : Own w lo (.slice (some ⟨g, 0, none⟩) xs.length cap) xs) (hi : i < xs.length) :
    Calls Try.prog 87 #[.slice (some ⟨g, 0, none⟩) xs.length cap, .int .i64 (i : Int), .int .i64 ((i : Int) + 1)] w fun e w' => e = .returned (.slice (some ⟨g, 0, none⟩) (xs.length - 1) cap) ∧ Own w' lo (.slice (some ⟨g, 0, none⟩) (xs.length - 1) cap) (xs.take i ++ xs.drop (i + 1)) ∧ w.grownBy w' (some g) := by
  have hcap : xs.length ≤ cap ∧ cap ≤ maxLen := by
    rcases h.2 with ⟨h', _⟩ | ⟨g', cap', cur, h', hb, hg, hnc, hcm, hcs, ht⟩
    · simp at h'
    · simp only [Value.slice.injEq, Option.some.injEq, Addr.mk.injEq, and_true, true_and] at h'
      obtain ⟨rfl, rfl⟩ := h'
      exact ⟨hnc, hcm⟩
  unfold maxLen at hcap
  have hc := Try.slices_Delete_int_cells g 0 xs.length cap i (i + 1) xs w (Nat.le_refl _) hcap.1 (by omega) (by omega) (by omega) (fun j hj => by
    rw [Nat.zero_add, World.ownsRow.cellAt h j (by omega), List.getElem?_map, List.getElem?_eq_getElem hj, List.getD_eq_getElem?_getD, List.getElem?_eq_getElem hj]
    rfl) (fun j hj => by rw [Nat.zero_add]; exact World.ownsRow.frozenAt h j)
  have e1 : ((i + 1 : Nat) : Int) = (i : Int) + 1 := by omega
  rw [e1] at hc
  refine hc.mono ?_
  rintro e w' ⟨rfl, q, rfl⟩
  have hd : Own (w.drewN q) lo (.slice (some ⟨g, 0, none⟩) xs.length cap) xs := Own.below h (below_drewN' q)
  have hs := own_setCells (((xs.take xs.length).take i ++ (xs.take xs.length).drop (i + 1) ++ List.replicate (i + 1 - i) 0).map (Value.int .i64)) 0 (w.drewN q) _ hd
  have hlen : (((xs.take xs.length).take i ++ (xs.take xs.length).drop (i + 1) ++ List.replicate (i + 1 - i) 0).map (Value.int .i64)).length = xs.length := by simp; omega
  rw [setL_all _ _ 0 (by rw [hlen]; simp)] at hs
  have e2 : i + 1 - i = 1 := by omega
  refine ⟨by rw [e2], ?_, ?_⟩
  · have hk := own_cut hs.1 (k := xs.length - 1) (by omega)
    have e3 : (xs.take i ++ xs.drop (i + 1)).length = xs.length - 1 := by simp; omega
    have e4 : (List.take 0 (xs.map (Value.int .i64)) ++ ((xs.take xs.length).take i ++ (xs.take xs.length).drop (i + 1) ++ List.replicate (i + 1 - i) 0).map (Value.int .i64)).take (xs.length - 1) = (xs.take i ++ xs.drop (i + 1)).map (Value.int .i64) := by
      rw [List.take_zero, List.nil_append, List.take_length, List.map_append, List.take_left' (by simp; omega)]
    rw [e4] at hk
    unfold Own
    rw [e3]
    exact hk
  · have g1 : w.grownBy (w.drewN q) (some g) := ⟨(below_drewN' q).os, (below_drewN' q).tape, (below_drewN' q).output, (below_drewN' q).size, fun k hk _ => (below_drewN' q).block k hk⟩
    exact grown_tr g1 hs.2

theorem Rd.cutTo {w : World} {a : Option Addr} {n cap : Nat} {xs : List Int} (h : Rd w (.slice a n cap) xs) (k : Nat) (hk : k ≤ xs.length) : Rd w (.slice a k cap) (xs.take k) := by
  obtain ⟨a', cap', e, h1, h2, h3⟩ := h
  simp only [Value.slice.injEq] at e
  obtain ⟨rfl, _, rfl⟩ := e
  have hl : (xs.take k).length = k := by simp; omega
  refine ⟨a, cap, by rw [hl], by omega, h2, ?_⟩
  rcases h3 with rfl | ⟨b, off, rfl, hlt, hc⟩
  · exact .inl (by simp)
  · refine .inr ⟨b, off, rfl, hlt, fun i hi => ?_⟩
    rw [hl] at hi
    rw [getD_take _ _ _ _ hi]
    exact hc i (by omega)
theorem Rd.cutFrom {w : World} {b off n cap : Nat} {xs : List Int} (h : Rd w (.slice (some ⟨b, off, none⟩) n cap) xs) (k : Nat) (hk : k ≤ xs.length) (o2 : Nat) (ho : k < xs.length → o2 = off + k) : Rd w (.slice (some ⟨b, o2, none⟩) (xs.length - k) (cap - k)) (xs.drop k) := by
  obtain ⟨a', cap', e, h1, h2, h3⟩ := h
  simp only [Value.slice.injEq] at e
  obtain ⟨rfl, _, rfl⟩ := e
  have hl : (xs.drop k).length = xs.length - k := by simp
  refine ⟨_, cap - k, by rw [hl], by omega, ⟨by omega, fun e => by cases e⟩, ?_⟩
  by_cases hk2 : k < xs.length
  · rcases h3 with rfl | ⟨b', off', e', hlt, hc⟩
    · simp at hk2
    · simp only [Option.some.injEq, Addr.mk.injEq, and_true] at e'
      obtain ⟨rfl, rfl⟩ := e'
      obtain rfl := ho hk2
      refine .inr ⟨b, off + k, rfl, hlt, fun i hi => ?_⟩
      rw [hl] at hi
      rw [Nat.add_assoc, hc (k + i) (by omega)]
      simp [List.getD_eq_getElem?_getD]
  · exact .inl (List.eq_nil_of_length_eq_zero (by rw [hl]; omega))

set_option maxRecDepth 100000 in
set_option maxHeartbeats 1600000 in
theorem l10Without_calls (v : Value) (xs : List Int) (i : Nat) (w : World) (h : Rd w v xs) (hi : i < xs.length) (hm : xs.length ≤ 1000) :
    Calls Try.prog 84 #[v, .int .i64 (i : Int)] w fun e w' => ∃ v', e = .returned v' ∧ Own w' w.heap.size v' (xs.take i ++ xs.drop (i + 1)) ∧ Below w.heap.size w w' := by
  have R := hide h
  obtain ⟨b, off, cap, rfl, hcap⟩ : ∃ b off cap, v = .slice (some ⟨b, off, none⟩) xs.length cap ∧ (xs.length ≤ cap ∧ cap ≤ maxLen) := by
    obtain ⟨a, cap, rfl, h1, h2, h3⟩ := h
    rcases h3 with rfl | ⟨b, off, rfl, _⟩
    · simp at hi
    · exact ⟨b, off, cap, rfl, h1, h2.1⟩
  unfold maxLen at hcap
  have hb0 := below_box w (.cells #[] 3)
  have o0 : Own (w.alloc (.cells #[] 3)) w.heap.size (.slice (some ⟨w.heap.size, 0, none⟩) 0 0) [] := World.ownsRow_lit (base := w.heap.size) (e := 3) (size := 1) w #[] 0 (Nat.le_refl _) (Nat.zero_le _) rfl
  have O0 := hide o0
  have B0 := hide hb0
  have i0 : (0 : Int) ≤ (i : Int) := by omega
  have i1 : (i : Int) ≤ (xs.length : Int) := by omega
  have i2 : (i : Int) ≤ (cap : Int) := by omega
  have i3 : (i : Int) + 1 ≤ (xs.length : Int) := by omega
  have i4 : (i : Int) + 1 ≤ (cap : Int) := by omega
  clear h o0 hb0
  go_enter Try.func84, Try.ntmps84
  go_wp2_with (at_builtin; refine wpList_app_int rfl _ _ rfl w.heap.size (.slice (some ⟨w.heap.size, 0, none⟩) 0 0) rfl [] O0.out (.slice (some ⟨b, off, none⟩) i cap) rfl (xs.take i) ((R.out.below B0.out).cutTo i (by omega)) (by simp; omega) B0.out.size ?_)
  intro v1 w1 o1 g1 at1
  obtain ⟨a1, k1, hv1⟩ := row_slice o1
  obtain ⟨L1, hL1⟩ : ∃ L, L = (xs.take i).length := ⟨_, rfl⟩
  have hv1' : v1 = .slice a1 L1 k1 := by rw [hL1]; simpa using hv1
  clear hv1
  subst hv1'
  have o1' : Own w1 w.heap.size (.slice a1 L1 k1) (xs.take i) := by simpa using o1
  have O1 := hide o1'
  have b1 : Below w.heap.size w w1 := B0.out.grown g1 B0.out.size (fun k hk => by
    have e8 : w.heap.size = k := by simpa [Value.ownBlock] using hk
    omega)
  have B1 := hide b1
  clear o1 o1' g1 at1 b1 hL1
  by_cases hcc : i + 1 < cap
  · have RX := hide ((R.out.below B1.out).cutFrom (i + 1) (by omega) (off + (i + 1)) (fun _ => rfl))
    have hcc' : (i : Int) + 1 < (cap : Int) := by omega
    go_wp2_with (at_builtin; refine wpList_app_int rfl _ _ rfl w.heap.size (.slice a1 L1 k1) rfl (xs.take i) O1.out (.slice (some ⟨b, off + (i + 1), none⟩) (xs.length - (i + 1)) (cap - (i + 1))) rfl (xs.drop (i + 1)) RX.out (by simp; omega) B1.out.size ?_)
    intro v2 w2 o2 g2 at2
    have O2 := hide o2
    have B2 := hide (B1.out.grown g2 B1.out.size (fun k hk => (World.ownsRow.lt O1.out k hk).1))
    clear o2 g2 at2
    go_wp2
    go_ret
    exact ⟨_, rfl, O2.out, B2.out⟩
  · obtain rfl : cap = i + 1 := by omega
    have hnil : xs.drop (i + 1) = [] := List.drop_eq_nil_of_le (by omega)
    have RX : Hid (Rd w1 (.slice (some ⟨b, off, none⟩) (xs.length - (i + 1)) 0) (xs.drop (i + 1))) := by
      rw [hnil, show xs.length - (i + 1) = 0 from by omega]
      exact ⟨_, 0, rfl, Nat.le_refl _, ⟨Nat.zero_le _, fun _ => rfl⟩, .inl rfl⟩
    have RY : Hid (Rd w1 (.slice (some ⟨b, off, none⟩) 0 0) (xs.drop (i + 1))) := by
      rw [hnil]
      exact ⟨_, 0, rfl, Nat.le_refl _, ⟨Nat.zero_le _, fun _ => rfl⟩, .inl rfl⟩
    clear hcc i2 i4 hnil
    go_wp2_with (at_builtin; first
      | refine wpList_app_int rfl _ _ rfl w.heap.size (.slice a1 L1 k1) rfl (xs.take i) O1.out (.slice (some ⟨b, off, none⟩) (xs.length - (i + 1)) 0) rfl (xs.drop (i + 1)) RX.out (by simp; omega) B1.out.size ?_
      | refine wpList_app_int rfl _ _ rfl w.heap.size (.slice a1 L1 k1) rfl (xs.take i) O1.out (.slice (some ⟨b, off, none⟩) 0 0) rfl (xs.drop (i + 1)) RY.out (by simp; omega) B1.out.size ?_)
    intro v2 w2 o2 g2 at2
    have O2 := hide o2
    have B2 := hide (B1.out.grown g2 B1.out.size (fun k hk => (World.ownsRow.lt O1.out k hk).1))
    clear o2 g2 at2
    go_wp2
    go_ret
    exact ⟨_, rfl, O2.out, B2.out⟩
end Go.Proofs.Ytakhggnbhjoojaa
