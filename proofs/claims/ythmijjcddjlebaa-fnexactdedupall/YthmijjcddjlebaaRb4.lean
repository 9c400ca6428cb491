/-
  Whether a recipe is good, by the model, and the number of a text among others, call by call. Each says what it asks.
-/
import Derived.Test.YthmijjcddjlebaaRb3
namespace Go.Proofs.Ythmijjcddjlebaa
open Go.RowKit
set_option linter.unusedVariables false

theorem RdT.cut9 {w : World} {a : Option Addr} {cap n m : Nat} {xs : List ByteArray} (h : RdT w (.slice a m cap) xs) (hn : n ≤ xs.length) : RdT w (.slice a n cap) (xs.take n) := by
  obtain ⟨a', cap', hv, h1, h2, h4, h3⟩ := h
  simp only [Value.slice.injEq] at hv
  obtain ⟨rfl, _, rfl⟩ := hv
  have el : (xs.take n).length = n := by rw [List.length_take]; omega
  refine ⟨a, cap, by rw [el], by rw [el]; omega, h2, fun s hs => h4 s (List.mem_of_mem_take hs), ?_⟩
  rcases h3 with h3 | ⟨b, off, rfl, hlt, hc⟩
  · left; subst h3; simp
  · right
    refine ⟨b, off, rfl, hlt, fun i hi => ?_⟩
    rw [el] at hi
    rw [List.getD_eq_getElem?_getD, List.getElem?_take, if_pos hi, ← List.getD_eq_getElem?_getD]
    exact hc i (by omega)
theorem getD_take9 (xs : List ByteArray) (n i : Nat) (h : i < n) : (xs.take n).getD i ⟨#[]⟩ = xs.getD i ⟨#[]⟩ := by
  rw [List.getD_eq_getElem?_getD, List.getD_eq_getElem?_getD, List.getElem?_take, if_pos h]
theorem toList_ne {s t : ByteArray} (h : s ≠ t) : ¬ s.toList = t.toList := by
  intro e
  apply h
  rw [ByteArray.toList_eq, ByteArray.toList_eq] at e
  apply ByteArray.ext
  exact Array.ext' e

/-- The number of a text among others: its first place, or less than nothing. -/
def IsAt (xs : List ByteArray) (t : ByteArray) (r : Int) : Prop :=
  (∃ i : Nat, i < xs.length ∧ xs.getD i ⟨#[]⟩ = t ∧ (∀ j, j < i → xs.getD j ⟨#[]⟩ ≠ t) ∧ r = (i : Int)) ∨ ((∀ i, i < xs.length → xs.getD i ⟨#[]⟩ ≠ t) ∧ r = -1)

set_option maxRecDepth 100000 in
set_option maxHeartbeats 400000 in
theorem l9Text_calls (v : Value) (xs : List ByteArray) (t : ByteArray) (w : World) (h : RdT w v xs) :
    Calls Try.prog 67 #[v, .string t] w fun e w' => (∃ r : Int, e = .returned (.int .i64 r) ∧ IsAt xs t r) ∧ w = w' := by
  obtain ⟨a, cap, rfl, h1, h2, h4, h3⟩ := h
  have hm : xs.length ≤ maxLen := by omega
  unfold maxLen at hm
  have H3 := hide h3
  clear h3 h4 h2 h1
  go_enter Try.func67, Try.ntmps67
  go_wp2
  go_loop [9] (fun vi => ∃ k : Nat, k ≤ xs.length ∧ vi = .int .i64 k ∧ ∀ i, i < k → xs.getD i ⟨#[]⟩ ≠ t) (fun vi => xs.length - (intOf vi).toNat)
  case atStart => exact ⟨0, Nat.zero_le _, rfl, fun i hi => by omega⟩
  case round =>
    obtain ⟨k, hk, rfl, hall⟩ := hrel
    have HA := hide hall
    clear hall
    by_cases hlt : k < xs.length
    · rcases H3.out with h3 | ⟨b, off, rfl, hbs, hc⟩
      · subst h3; simp at hlt
      have hc1 := hc k hlt
      clear hc
      obtain ⟨z, hzz⟩ : ∃ z, z = xs.getD k ⟨#[]⟩ := ⟨_, rfl⟩
      rw [← hzz] at hc1
      have HZ := hide hzz
      have hlt' : (k : Int) < (xs.length : Int) := by omega
      clear hzz
      by_cases he : z = t
      · subst he
        go_wp2
        go_ret
        exact ⟨⟨_, rfl, .inl ⟨k, hlt, HZ.out.symm, HA.out, rfl⟩⟩, rfl⟩
      · have h1 := toList_ne he
        have h2 : (z.toList == t.toList) = false := by simpa using h1
        have HE := hide he
        clear he
        go_wp2
        go_round
        case rel =>
          refine ⟨k + 1, by omega, by go_num, fun i hi => ?_⟩
          by_cases e : i = k
          · subst e; rw [← HZ.out]; exact HE.out
          · exact HA.out i (by omega)
        case measure => simp [intOf]; omega
    · obtain rfl : k = xs.length := by omega
      go_wp2
      go_ret
      exact ⟨⟨_, rfl, .inr ⟨HA.out, rfl⟩⟩, rfl⟩

set_option maxRecDepth 100000 in
set_option maxHeartbeats 1600000 in
theorem l9Recipe_calls (vc vu : Value) (C : List ByteArray) (U : List (List Int)) (w : World) (hc : RdT w vc C) (hu : RdM w vu U) (hn : C.length ≤ 1048576) :
    Calls Try.prog 73 #[.agg #[vc, vu]] w fun e w' => e = .returned (.bool (decide (goodRec C U))) ∧ Below w.heap.size w w' := by
  have RC := hide hc
  obtain ⟨ac, cc, rfl, hc1, hcm, hc4, hc3⟩ := hc
  obtain ⟨au, cu, rfl, _, hum, hu3⟩ := hu
  have hlc : C.length ≤ maxLen := by omega
  have hlu : U.length ≤ maxLen := by omega
  unfold maxLen at hlc hlu
  have C4 := hide hc4
  have C3 := hide hc3
  have U3 := hide hu3
  clear hcm hum hc3 hu3 hc4
  have F1 : Hid (Boxed2 (w.alloc (.cells #[.slice ac C.length cc, .slice au U.length cu] 27)) w.heap.size 27 (.slice ac C.length cc) (.slice au U.length cu)) := boxed2_new w _ _ _
  have B0 : Hid (Below w.heap.size w (w.alloc (.cells #[.slice ac C.length cc, .slice au U.length cu] 27))) := (Below.refl _ w).alloc (Nat.le_refl _) _
  have RC0 := hide (RC.out.below B0.out)
  have NO : Hid (∀ p : Prop, (goodRec C U → p) → ¬ p → decide (goodRec C U) = false) := fun p h hp => decide_eq_false (fun g => hp (h g))
  have CELL : Hid (∀ i, i < C.length → ∃ b off, ac = some ⟨b, off, none⟩ ∧ (w.alloc (.cells #[.slice ac C.length cc, .slice au U.length cu] 27)).cell? ⟨b, off + i, none⟩ = some (.string (C.getD i ⟨#[]⟩))) := by
    intro i hi
    rcases C3.out with h3 | ⟨b, off, rfl, hbs, hc⟩
    · rw [h3] at hi; simp at hi
    · exact ⟨b, off, rfl, (B0.out.cell (p := ⟨b, off + i, none⟩) hbs).trans (hc i hi)⟩
  have ROW : Hid (∀ i, i < U.length → ∃ b off u, au = some ⟨b, off, none⟩ ∧ (w.alloc (.cells #[.slice ac C.length cc, .slice au U.length cu] 27)).cell? ⟨b, off + i, none⟩ = some u ∧ Rd (w.alloc (.cells #[.slice ac C.length cc, .slice au U.length cu] 27)) u (U.getD i [])) := by
    intro i hi
    rcases U3.out with h3 | ⟨b, off, rfl, hbs, hc⟩
    · rw [h3] at hi; simp at hi
    · obtain ⟨u, hu, hr⟩ := hc i hi
      exact ⟨b, off, u, rfl, (B0.out.cell (p := ⟨b, off + i, none⟩) hbs).trans hu, hr.below B0.out⟩
  have f10 := F1.out.c0
  have f11 := F1.out.c1
  clear C3 U3 F1
  generalize hW : w.alloc (.cells #[.slice ac C.length cc, .slice au U.length cu] 27) = W at B0 RC0 CELL ROW f10 f11
  generalize hgr : decide (goodRec C U) = y at NO ⊢
  have HY := hide hgr
  clear hgr
  go_enter Try.func73, Try.ntmps73
  go_wp2
  go_loop [12] (fun vi => ∃ k : Nat, k ≤ C.length ∧ vi = .int .i64 k ∧ ∀ i, i < k → chunkOk (C.getD i ⟨#[]⟩) ∧ ∀ j, j < i → C.getD j ⟨#[]⟩ ≠ C.getD i ⟨#[]⟩) (fun vi => C.length - (intOf vi).toNat)
  case atStart => exact ⟨0, Nat.zero_le _, rfl, fun i hi => by omega⟩
  case round =>
    obtain ⟨k, hk, rfl, hall⟩ := hrel
    have HA := hide hall
    clear hall
    by_cases hlt : k < C.length
    · obtain ⟨b, off, hac, hck⟩ := CELL.out k hlt
      subst hac
      have hz : (C.getD k ⟨#[]⟩).size ≤ maxLen := by
        apply C4.out
        rw [List.getD_eq_getElem?_getD, List.getElem?_eq_getElem hlt]
        exact List.getElem_mem hlt
      unfold maxLen at hz
      have RT := hide (RC0.out.cut9 (n := k) (by omega))
      have hgk : Hid (goodRec C U → chunkOk (C.getD k ⟨#[]⟩)) := fun g => g.2.2.1 k hlt
      have hgu : Hid (goodRec C U → ∀ i, i < k → C.getD i ⟨#[]⟩ ≠ C.getD k ⟨#[]⟩) := fun g => g.2.2.2.1 k hlt
      obtain ⟨z, hzz⟩ : ∃ z, z = C.getD k ⟨#[]⟩ := ⟨_, rfl⟩
      rw [← hzz] at hck hz hgk hgu
      have HZ := hide hzz
      have hlt' : (k : Int) < (C.length : Int) := by omega
      have hcap : (k : Int) ≤ (cc : Int) := by omega
      have hk0 : (0 : Int) ≤ (k : Int) := by omega
      clear hzz
      by_cases z0 : z = ⟨#[]⟩
      · have ER := hide (NO.out _ hgk.out (fun h => h.1 z0))
        subst z0
        go_wp2
        go_ret
        exact ⟨ret_bool ER.out.symm, B0.out⟩
      have h1 := nonempty_list z0
      have h2 : (z.toList == []) = false := by simpa using h1
      by_cases z20 : z.size ≤ 20
      case neg =>
        have ER := hide (NO.out _ hgk.out (fun h => z20 h.2))
        have u : (20 : Int) < (z.size : Int) := by omega
        clear z0
        go_wp2
        go_ret
        exact ⟨ret_bool ER.out.symm, B0.out⟩
      have u : ¬ (20 : Int) < (z.size : Int) := by omega
      have ub : decide ((20 : Int) < (z.size : Int)) = false := decide_eq_false u
      have CK := hide (And.intro z0 z20)
      clear z0
      go_wp2_with fail
      refine (l9Text_calls _ (C.take k) z _ RT.out).mono ?_
      rintro e w1 ⟨⟨r, rfl, hat⟩, rfl⟩
      have htl : (C.take k).length = k := by rw [List.length_take]; omega
      rcases hat with ⟨i, hi, hx, _, rfl⟩ | ⟨hno, rfl⟩
      · rw [htl] at hi
        rw [getD_take9 C k i hi] at hx
        have ER := hide (NO.out _ hgu.out (fun h => h i hi hx))
        have ui : (0 : Int) ≤ (i : Int) := by omega
        clear hx
        go_wp2
        go_ret
        exact ⟨ret_bool ER.out.symm, B0.out⟩
      · rw [htl] at hno
        have HN := hide hno
        clear hno htl
        go_wp2
        go_round
        case rel =>
          refine ⟨k + 1, by omega, by go_num, fun i hi => ?_⟩
          by_cases e : i = k
          · subst e
            rw [← HZ.out]
            exact ⟨CK.out, fun j hj => by have := HN.out j hj; rwa [getD_take9 C i j hj] at this⟩
          · exact HA.out i (by omega)
        case measure => simp [intOf]; omega
    · obtain rfl : k = C.length := by omega
      have CHK := hide HA.out
      clear HA CELL hlt
      go_wp2
      go_loop [37] (fun vi => ∃ m : Nat, m ≤ U.length ∧ vi = .int .i64 m ∧ ∀ i, i < m → useOk C.length (U.getD i [])) (fun vi => U.length - (intOf vi).toNat)
      case atStart => exact ⟨0, Nat.zero_le _, rfl, fun i hi => by omega⟩
      case round =>
        obtain ⟨m, hm, rfl, hall⟩ := hrel
        have HU := hide hall
        clear hall
        by_cases hml : m < U.length
        · obtain ⟨bu, ou, uv, hau, hcu, hru⟩ := ROW.out m hml
          subst hau
          have hgm : Hid (goodRec C U → useOk C.length (U.getD m [])) := fun g => g.2.2.2.2 m hml
          obtain ⟨xs, hxs⟩ : ∃ xs, xs = U.getD m [] := ⟨_, rfl⟩
          rw [← hxs] at hru hgm
          have HX := hide hxs
          obtain ⟨ax, cx, rfl, hx1, hx2, hx3⟩ := hru
          have hxl : xs.length ≤ maxLen := by omega
          unfold maxLen at hxl
          have X3 := hide hx3
          have hml' : (m : Int) < (U.length : Int) := by omega
          clear hxs hx3 hx2 hx1
          go_wp2
          go_loop [43] (fun vi => ∃ n : Nat, n ≤ xs.length ∧ vi = .int .i64 n ∧ ∀ i, i < n → thereOk C.length (xs.getD i 0)) (fun vi => xs.length - (intOf vi).toNat)
          case atStart => exact ⟨0, Nat.zero_le _, rfl, fun i hi => by omega⟩
          case round =>
            obtain ⟨n, hnn, rfl, hall⟩ := hrel
            have HT := hide hall
            clear hall
            by_cases hnl : n < xs.length
            · rcases X3.out with h3 | ⟨bx, ox, rfl, hbx, hcx⟩
              · rw [h3] at hnl; simp at hnl
              have hcx1 := hcx n hnl
              have hgn : Hid (goodRec C U → thereOk C.length (xs.getD n 0)) := fun g => (hgm.out g).2 n hnl
              obtain ⟨x, hx⟩ : ∃ x, x = xs.getD n 0 := ⟨_, rfl⟩
              rw [← hx] at hcx1 hgn
              have HXN := hide hx
              have hnl' : (n : Int) < (xs.length : Int) := by omega
              clear hcx hx
              by_cases x0 : 0 ≤ x
              case neg =>
                have ER := hide (NO.out _ hgn.out (fun h => x0 h.1))
                have u0 : x < 0 := by omega
                go_wp2
                go_ret
                exact ⟨ret_bool ER.out.symm, B0.out⟩
              have u0 : ¬ x < 0 := by omega
              have u0b : decide (x < 0) = false := decide_eq_false u0
              by_cases x1 : x < (C.length : Int)
              case neg =>
                have ER := hide (NO.out _ hgn.out (fun h => x1 h.2))
                have u1 : (C.length : Int) ≤ x := by omega
                go_wp2
                go_ret
                exact ⟨ret_bool ER.out.symm, B0.out⟩
              have u1 : ¬ (C.length : Int) ≤ x := by omega
              have u1b : decide ((C.length : Int) ≤ x) = false := decide_eq_false u1
              go_wp2
              go_round
              case rel =>
                refine ⟨n + 1, by omega, by go_num, fun i hi => ?_⟩
                by_cases e : i = n
                · subst e; rw [← HXN.out]; exact ⟨x0, x1⟩
                · exact HT.out i (by omega)
              case measure => simp [intOf]; omega
            · obtain rfl : n = xs.length := by omega
              by_cases h80 : xs.length ≤ 80
              case neg =>
                have ER := hide (NO.out _ hgm.out (fun h => h80 h.1))
                have u0 : (80 : Int) < (xs.length : Int) := by omega
                go_wp2
                go_ret
                exact ⟨ret_bool ER.out.symm, B0.out⟩
              have u0 : ¬ (80 : Int) < (xs.length : Int) := by omega
              go_wp2
              go_round
              case rel =>
                refine ⟨m + 1, by omega, by go_num, fun i hi => ?_⟩
                by_cases e : i = m
                · subst e; rw [← HX.out]; exact ⟨h80, HT.out⟩
                · exact HU.out i (by omega)
              case measure => simp [intOf]; omega
        · obtain rfl : m = U.length := by omega
          by_cases h600 : C.length ≤ 600
          case neg =>
            have ER := hide (NO.out _ (fun g => g.2.1) h600)
            have u0 : ¬ (C.length : Int) ≤ 600 := by omega
            have u0b : decide ((C.length : Int) ≤ 600) = false := decide_eq_false u0
            go_wp2
            go_ret
            exact ⟨ret_bool ER.out.symm, B0.out⟩
          have u0 : (C.length : Int) ≤ 600 := by omega
          have er : y = decide ((U.length : Int) ≤ 8) := HY.out.symm.trans <| decide_eq_decide.2 ⟨fun g => by have := g.1; omega, fun g => ⟨by omega, h600, fun i hi => (CHK.out i hi).1, fun j hj i hij => (CHK.out j hj).2 i hij, HU.out⟩⟩
          have ER := hide er
          clear er
          go_wp2
          go_ret
          exact ⟨ret_bool ER.out.symm, B0.out⟩
end Go.Proofs.Ythmijjcddjlebaa
