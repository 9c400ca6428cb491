/-
  Whether a recipe is good, by the model, and the number of a text among others, call by call. Each says what it asks. A text built again out of a recipe, by the model; a recipe measured, copied, compared, by the laws, call by call. Each says what it asks. A recipe copied by the laws, call by call. Each says what it asks.
-/
import Derived.Test.YthmijjcddjlebaaDedupB6
import Derived.Maps.AppendAt
namespace Go.Proofs.Ythmijjcddjlebaa
open Go.RowKit
set_option linter.unusedVariables false

theorem RdT.cut9 {w : World} {a : Option Addr} {cap n m : Nat} {xs : List ByteArray} (h : RdT w (.slice a m cap) xs) (hn : n ≤ xs.length) : RdT w (.slice a n cap) (xs.take n) := by
  obtain ⟨a', cap', hv, h1, h2, h4, h3⟩ := h
  simp only [Value.slice.injEq] at hv
  obtain ⟨rfl, _, rfl⟩ := hv
  have el : (xs.take n).length = n := by rw [List.length_take]; omega
  refine ⟨a, cap, by rw [el], by rw [el]; omega, h2, fun s hs => h4 s (List.mem_of_mem_take hs), ?_⟩
  rcases h3 with h3 | ⟨b, off, rfl, hlt, hc⟩
  · left; subst h3; simp
  · right
    refine ⟨b, off, rfl, hlt, fun i hi => ?_⟩
    rw [el] at hi
    rw [List.getD_eq_getElem?_getD, List.getElem?_take, if_pos hi, ← List.getD_eq_getElem?_getD]
    exact hc i (by omega)
theorem getD_take9 (xs : List ByteArray) (n i : Nat) (h : i < n) : (xs.take n).getD i ⟨#[]⟩ = xs.getD i ⟨#[]⟩ := by
  rw [List.getD_eq_getElem?_getD, List.getD_eq_getElem?_getD, List.getElem?_take, if_pos h]
theorem toList_ne {s t : ByteArray} (h : s ≠ t) : ¬ s.toList = t.toList := by
  intro e
  apply h
  rw [ByteArray.toList_eq, ByteArray.toList_eq] at e
  apply ByteArray.ext
  exact Array.ext' e

/-- The number of a text among others: its first place, or less than nothing. -/
def IsAt (xs : List ByteArray) (t : ByteArray) (r : Int) : Prop :=
  (∃ i : Nat, i < xs.length ∧ xs.getD i ⟨#[]⟩ = t ∧ (∀ j, j < i → xs.getD j ⟨#[]⟩ ≠ t) ∧ r = (i : Int)) ∨ ((∀ i, i < xs.length → xs.getD i ⟨#[]⟩ ≠ t) ∧ r = -1)

set_option maxRecDepth 100000 in
set_option maxHeartbeats 400000 in
theorem l9Text_calls (v : Value) (xs : List ByteArray) (t : ByteArray) (w : World) (h : RdT w v xs) :
    Calls Try.prog 67 #[v, .string t] w fun e w' => (∃ r : Int, e = .returned (.int .i64 r) ∧ IsAt xs t r) ∧ w = w' := by
  obtain ⟨a, cap, rfl, h1, h2, h4, h3⟩ := h
  have hm : xs.length ≤ maxLen := by omega
  unfold maxLen at hm
  have H3 := hide h3
  clear h3 h4 h2 h1
  go_enter Try.func67, Try.ntmps67
  go_wp2
  go_loop [9] (fun vi => ∃ k : Nat, k ≤ xs.length ∧ vi = .int .i64 k ∧ ∀ i, i < k → xs.getD i ⟨#[]⟩ ≠ t) (fun vi => xs.length - (intOf vi).toNat)
  case atStart => exact ⟨0, Nat.zero_le _, rfl, fun i hi => by omega⟩
  case round =>
    obtain ⟨k, hk, rfl, hall⟩ := hrel
    have HA := hide hall
    clear hall
    by_cases hlt : k < xs.length
    · rcases H3.out with h3 | ⟨b, off, rfl, hbs, hc⟩
      · subst h3; simp at hlt
      have hc1 := hc k hlt
      clear hc
      obtain ⟨z, hzz⟩ : ∃ z, z = xs.getD k ⟨#[]⟩ := ⟨_, rfl⟩
      rw [← hzz] at hc1
      have HZ := hide hzz
      have hlt' : (k : Int) < (xs.length : Int) := by omega
      clear hzz
      by_cases he : z = t
      · subst he
        go_wp2
        go_ret
        exact ⟨⟨_, rfl, .inl ⟨k, hlt, HZ.out.symm, HA.out, rfl⟩⟩, rfl⟩
      · have h1 := toList_ne he
        have h2 : (z.toList == t.toList) = false := by simpa using h1
        have HE := hide he
        clear he
        go_wp2
        go_round
        case rel =>
          refine ⟨k + 1, by omega, by go_num, fun i hi => ?_⟩
          by_cases e : i = k
          · subst e; rw [← HZ.out]; exact HE.out
          · exact HA.out i (by omega)
        case measure => simp [intOf]; omega
    · obtain rfl : k = xs.length := by omega
      go_wp2
      go_ret
      exact ⟨⟨_, rfl, .inr ⟨HA.out, rfl⟩⟩, rfl⟩

set_option maxRecDepth 100000 in
set_option maxHeartbeats 1600000 in
theorem l9Recipe_calls (vc vu : Value) (C : List ByteArray) (U : List (List Int)) (w : World) (hc : RdT w vc C) (hu : RdM w vu U) (hn : C.length ≤ 1048576) :
    Calls Try.prog 73 #[.agg #[vc, vu]] w fun e w' => e = .returned (.bool (decide (goodRec C U))) ∧ Below w.heap.size w w' := by
  have RC := hide hc
  obtain ⟨ac, cc, rfl, hc1, hcm, hc4, hc3⟩ := hc
  obtain ⟨au, cu, rfl, _, hum, hu3⟩ := hu
  have hlc : C.length ≤ maxLen := by omega
  have hlu : U.length ≤ maxLen := by omega
  unfold maxLen at hlc hlu
  have C4 := hide hc4
  have C3 := hide hc3
  have U3 := hide hu3
  clear hcm hum hc3 hu3 hc4
  have F1 : Hid (Boxed2 (w.alloc (.cells #[.slice ac C.length cc, .slice au U.length cu] 27)) w.heap.size 27 (.slice ac C.length cc) (.slice au U.length cu)) := boxed2_new w _ _ _
  have B0 : Hid (Below w.heap.size w (w.alloc (.cells #[.slice ac C.length cc, .slice au U.length cu] 27))) := (Below.refl _ w).alloc (Nat.le_refl _) _
  have RC0 := hide (RC.out.below B0.out)
  have NO : Hid (∀ p : Prop, (goodRec C U → p) → ¬ p → decide (goodRec C U) = false) := fun p h hp => decide_eq_false (fun g => hp (h g))
  have CELL : Hid (∀ i, i < C.length → ∃ b off, ac = some ⟨b, off, none⟩ ∧ (w.alloc (.cells #[.slice ac C.length cc, .slice au U.length cu] 27)).cell? ⟨b, off + i, none⟩ = some (.string (C.getD i ⟨#[]⟩))) := by
    intro i hi
    rcases C3.out with h3 | ⟨b, off, rfl, hbs, hc⟩
    · rw [h3] at hi; simp at hi
    · exact ⟨b, off, rfl, (B0.out.cell (p := ⟨b, off + i, none⟩) hbs).trans (hc i hi)⟩
  have ROW : Hid (∀ i, i < U.length → ∃ b off u, au = some ⟨b, off, none⟩ ∧ (w.alloc (.cells #[.slice ac C.length cc, .slice au U.length cu] 27)).cell? ⟨b, off + i, none⟩ = some u ∧ Rd (w.alloc (.cells #[.slice ac C.length cc, .slice au U.length cu] 27)) u (U.getD i [])) := by
    intro i hi
    rcases U3.out with h3 | ⟨b, off, rfl, hbs, hc⟩
    · rw [h3] at hi; simp at hi
    · obtain ⟨u, hu, hr⟩ := hc i hi
      exact ⟨b, off, u, rfl, (B0.out.cell (p := ⟨b, off + i, none⟩) hbs).trans hu, hr.below B0.out⟩
  have f10 := F1.out.c0
  have f11 := F1.out.c1
  clear C3 U3 F1
  generalize hW : w.alloc (.cells #[.slice ac C.length cc, .slice au U.length cu] 27) = W at B0 RC0 CELL ROW f10 f11
  generalize hgr : decide (goodRec C U) = y at NO ⊢
  have HY := hide hgr
  clear hgr
  go_enter Try.func73, Try.ntmps73
  go_wp2
  go_loop [12] (fun vi => ∃ k : Nat, k ≤ C.length ∧ vi = .int .i64 k ∧ ∀ i, i < k → chunkOk (C.getD i ⟨#[]⟩) ∧ ∀ j, j < i → C.getD j ⟨#[]⟩ ≠ C.getD i ⟨#[]⟩) (fun vi => C.length - (intOf vi).toNat)
  case atStart => exact ⟨0, Nat.zero_le _, rfl, fun i hi => by omega⟩
  case round =>
    obtain ⟨k, hk, rfl, hall⟩ := hrel
    have HA := hide hall
    clear hall
    by_cases hlt : k < C.length
    · obtain ⟨b, off, hac, hck⟩ := CELL.out k hlt
      subst hac
      have hz : (C.getD k ⟨#[]⟩).size ≤ maxLen := by
        apply C4.out
        rw [List.getD_eq_getElem?_getD, List.getElem?_eq_getElem hlt]
        exact List.getElem_mem hlt
      unfold maxLen at hz
      have RT := hide (RC0.out.cut9 (n := k) (by omega))
      have hgk : Hid (goodRec C U → chunkOk (C.getD k ⟨#[]⟩)) := fun g => g.2.2.1 k hlt
      have hgu : Hid (goodRec C U → ∀ i, i < k → C.getD i ⟨#[]⟩ ≠ C.getD k ⟨#[]⟩) := fun g => g.2.2.2.1 k hlt
      obtain ⟨z, hzz⟩ : ∃ z, z = C.getD k ⟨#[]⟩ := ⟨_, rfl⟩
      rw [← hzz] at hck hz hgk hgu
      have HZ := hide hzz
      have hlt' : (k : Int) < (C.length : Int) := by omega
      have hcap : (k : Int) ≤ (cc : Int) := by omega
      have hk0 : (0 : Int) ≤ (k : Int) := by omega
      clear hzz
      by_cases z0 : z = ⟨#[]⟩
      · have ER := hide (NO.out _ hgk.out (fun h => h.1 z0))
        subst z0
        go_wp2
        go_ret
        exact ⟨ret_bool ER.out.symm, B0.out⟩
      have h1 := nonempty_list z0
      have h2 : (z.toList == []) = false := by simpa using h1
      by_cases z20 : z.size ≤ 20
      case neg =>
        have ER := hide (NO.out _ hgk.out (fun h => z20 h.2))
        have u : (20 : Int) < (z.size : Int) := by omega
        clear z0
        go_wp2
        go_ret
        exact ⟨ret_bool ER.out.symm, B0.out⟩
      have u : ¬ (20 : Int) < (z.size : Int) := by omega
      have ub : decide ((20 : Int) < (z.size : Int)) = false := decide_eq_false u
      have CK := hide (And.intro z0 z20)
      clear z0
      go_wp2_with fail
      refine (l9Text_calls _ (C.take k) z _ RT.out).mono ?_
      rintro e w1 ⟨⟨r, rfl, hat⟩, rfl⟩
      have htl : (C.take k).length = k := by rw [List.length_take]; omega
      rcases hat with ⟨i, hi, hx, _, rfl⟩ | ⟨hno, rfl⟩
      · rw [htl] at hi
        rw [getD_take9 C k i hi] at hx
        have ER := hide (NO.out _ hgu.out (fun h => h i hi hx))
        have ui : (0 : Int) ≤ (i : Int) := by omega
        clear hx
        go_wp2
        go_ret
        exact ⟨ret_bool ER.out.symm, B0.out⟩
      · rw [htl] at hno
        have HN := hide hno
        clear hno htl
        go_wp2
        go_round
        case rel =>
          refine ⟨k + 1, by omega, by go_num, fun i hi => ?_⟩
          by_cases e : i = k
          · subst e
            rw [← HZ.out]
            exact ⟨CK.out, fun j hj => by have := HN.out j hj; rwa [getD_take9 C i j hj] at this⟩
          · exact HA.out i (by omega)
        case measure => simp [intOf]; omega
    · obtain rfl : k = C.length := by omega
      have CHK := hide HA.out
      clear HA CELL hlt
      go_wp2
      go_loop [37] (fun vi => ∃ m : Nat, m ≤ U.length ∧ vi = .int .i64 m ∧ ∀ i, i < m → useOk C.length (U.getD i [])) (fun vi => U.length - (intOf vi).toNat)
      case atStart => exact ⟨0, Nat.zero_le _, rfl, fun i hi => by omega⟩
      case round =>
        obtain ⟨m, hm, rfl, hall⟩ := hrel
        have HU := hide hall
        clear hall
        by_cases hml : m < U.length
        · obtain ⟨bu, ou, uv, hau, hcu, hru⟩ := ROW.out m hml
          subst hau
          have hgm : Hid (goodRec C U → useOk C.length (U.getD m [])) := fun g => g.2.2.2.2 m hml
          obtain ⟨xs, hxs⟩ : ∃ xs, xs = U.getD m [] := ⟨_, rfl⟩
          rw [← hxs] at hru hgm
          have HX := hide hxs
          obtain ⟨ax, cx, rfl, hx1, hx2, hx3⟩ := hru
          have hxl : xs.length ≤ maxLen := by omega
          unfold maxLen at hxl
          have X3 := hide hx3
          have hml' : (m : Int) < (U.length : Int) := by omega
          clear hxs hx3 hx2 hx1
          go_wp2
          go_loop [43] (fun vi => ∃ n : Nat, n ≤ xs.length ∧ vi = .int .i64 n ∧ ∀ i, i < n → thereOk C.length (xs.getD i 0)) (fun vi => xs.length - (intOf vi).toNat)
          case atStart => exact ⟨0, Nat.zero_le _, rfl, fun i hi => by omega⟩
          case round =>
            obtain ⟨n, hnn, rfl, hall⟩ := hrel
            have HT := hide hall
            clear hall
            by_cases hnl : n < xs.length
            · rcases X3.out with h3 | ⟨bx, ox, rfl, hbx, hcx⟩
              · rw [h3] at hnl; simp at hnl
              have hcx1 := hcx n hnl
              have hgn : Hid (goodRec C U → thereOk C.length (xs.getD n 0)) := fun g => (hgm.out g).2 n hnl
              obtain ⟨x, hx⟩ : ∃ x, x = xs.getD n 0 := ⟨_, rfl⟩
              rw [← hx] at hcx1 hgn
              have HXN := hide hx
              have hnl' : (n : Int) < (xs.length : Int) := by omega
              clear hcx hx
              by_cases x0 : 0 ≤ x
              case neg =>
                have ER := hide (NO.out _ hgn.out (fun h => x0 h.1))
                have u0 : x < 0 := by omega
                go_wp2
                go_ret
                exact ⟨ret_bool ER.out.symm, B0.out⟩
              have u0 : ¬ x < 0 := by omega
              have u0b : decide (x < 0) = false := decide_eq_false u0
              by_cases x1 : x < (C.length : Int)
              case neg =>
                have ER := hide (NO.out _ hgn.out (fun h => x1 h.2))
                have u1 : (C.length : Int) ≤ x := by omega
                go_wp2
                go_ret
                exact ⟨ret_bool ER.out.symm, B0.out⟩
              have u1 : ¬ (C.length : Int) ≤ x := by omega
              have u1b : decide ((C.length : Int) ≤ x) = false := decide_eq_false u1
              go_wp2
              go_round
              case rel =>
                refine ⟨n + 1, by omega, by go_num, fun i hi => ?_⟩
                by_cases e : i = n
                · subst e; rw [← HXN.out]; exact ⟨x0, x1⟩
                · exact HT.out i (by omega)
              case measure => simp [intOf]; omega
            · obtain rfl : n = xs.length := by omega
              by_cases h80 : xs.length ≤ 80
              case neg =>
                have ER := hide (NO.out _ hgm.out (fun h => h80 h.1))
                have u0 : (80 : Int) < (xs.length : Int) := by omega
                go_wp2
                go_ret
                exact ⟨ret_bool ER.out.symm, B0.out⟩
              have u0 : ¬ (80 : Int) < (xs.length : Int) := by omega
              go_wp2
              go_round
              case rel =>
                refine ⟨m + 1, by omega, by go_num, fun i hi => ?_⟩
                by_cases e : i = m
                · subst e; rw [← HX.out]; exact ⟨h80, HT.out⟩
                · exact HU.out i (by omega)
              case measure => simp [intOf]; omega
        · obtain rfl : m = U.length := by omega
          by_cases h600 : C.length ≤ 600
          case neg =>
            have ER := hide (NO.out _ (fun g => g.2.1) h600)
            have u0 : ¬ (C.length : Int) ≤ 600 := by omega
            have u0b : decide ((C.length : Int) ≤ 600) = false := decide_eq_false u0
            go_wp2
            go_ret
            exact ⟨ret_bool ER.out.symm, B0.out⟩
          have u0 : (C.length : Int) ≤ 600 := by omega
          have er : y = decide ((U.length : Int) ≤ 8) := HY.out.symm.trans <| decide_eq_decide.2 ⟨fun g => by have := g.1; omega, fun g => ⟨by omega, h600, fun i hi => (CHK.out i hi).1, fun j hj i hij => (CHK.out j hj).2 i hij, HU.out⟩⟩
          have ER := hide er
          clear er
          go_wp2
          go_ret
          exact ⟨ret_bool ER.out.symm, B0.out⟩
end Go.Proofs.Ythmijjcddjlebaa

namespace Go.Proofs.Ythmijjcddjlebaa
open Go.RowKit
set_option linter.unusedVariables false

set_option maxRecDepth 100000 in
set_option maxHeartbeats 400000 in
theorem szStringS9_any (v : Value) (xs : List ByteArray) (l : Int) (w : World) (h : RdT w v xs) (hl0 : 0 ≤ l) (hl1 : l ≤ 1048576) :
    Calls Try.prog 50 #[v, .int .i64 l] w fun e w' => (∃ r : Int, e = .returned (.int .i64 r) ∧ (r < 0 ∨ (0 ≤ r ∧ r ≤ 1048576 ∧ xs.length ≤ 1048576))) ∧ w = w' := by
  obtain ⟨a, cap, rfl, h1, h2, h4, h3⟩ := h
  have hm : xs.length ≤ maxLen := by omega
  unfold maxLen at hm
  have H3 := hide h3
  have H4 := hide h4
  clear h3 h4 h2 h1
  by_cases hn : (xs.length : Int) ≤ l
  case neg =>
    have hn' : l - (xs.length : Int) < 0 := by omega
    go_enter Try.func50, Try.ntmps50
    go_wp2
    go_ret
    exact ⟨⟨-1, rfl, .inl (by decide)⟩, rfl⟩
  have hn' : ¬ l - (xs.length : Int) < 0 := by omega
  go_enter Try.func50, Try.ntmps50
  go_wp2
  go_loop [1, 5] (fun vl vi => ∃ (k : Nat) (l : Int), k ≤ xs.length ∧ vi = .int .i64 k ∧ vl = .int .i64 l ∧ 0 ≤ l ∧ l ≤ 1048576) (fun _ vi => xs.length - (intOf vi).toNat)
  case atStart => exact ⟨0, _, Nat.zero_le _, rfl, rfl, by omega, by omega⟩
  case round =>
    obtain ⟨k, l2, hk, rfl, rfl, hl0, hl1⟩ := hrel
    by_cases hlt : k < xs.length
    · rcases H3.out with h3 | ⟨b, off, rfl, hbs, hc⟩
      · subst h3; simp at hlt
      have hc1 := hc k hlt
      have hz : (xs.getD k ⟨#[]⟩).size ≤ maxLen := by
        apply H4.out
        rw [List.getD_eq_getElem?_getD, List.getElem?_eq_getElem hlt]
        exact List.getElem_mem hlt
      unfold maxLen at hz
      clear hc
      generalize xs.getD k ⟨#[]⟩ = z at hc1 hz
      by_cases hle : (z.size : Int) ≤ l2
      · have t1 : ¬ l2 - (z.size : Int) < 0 := by omega
        go_wp2
        go_round
        case rel => exact ⟨k + 1, _, by omega, by go_num, rfl, by omega, by omega⟩
        case measure => simp [intOf]; omega
      · have t1 : l2 - (z.size : Int) < 0 := by omega
        go_wp2
        go_ret
        exact ⟨⟨-1, rfl, .inl (by decide)⟩, rfl⟩
    · obtain rfl : k = xs.length := by omega
      go_wp2
      go_ret
      exact ⟨⟨l2, rfl, Or.inr ⟨hl0, hl1, by omega⟩⟩, rfl⟩

/-- What a disk's measure tells. -/
def SzD (P H : List ByteArray) (B : List Bool) : Prop := P.length ≤ 1048576 ∧ H.length ≤ 1048576 ∧ B.length ≤ 1048576


theorem own_ge8 {w : World} {base k : Nat} {e : TypeId} {v : Value} {xs : List Value} (h : w.ownsRow base e 1 v k xs) : ∀ g, v.ownBlock = some g → base ≤ g := by
  intro g eg
  rcases h.2 with ⟨rfl, _⟩ | ⟨g', cap, cur, rfl, hb, _⟩
  · simp [Value.ownBlock] at eg
  · obtain rfl : g' = g := by simpa [Value.ownBlock] using eg
    exact hb
theorem own_slice6 {w : World} {base : Nat} {v : Value} {xs : List ByteArray} (h : OwnT w base v xs) : ∃ a cap, v = .slice a xs.length cap := by
  rcases h.2 with ⟨rfl, h0⟩ | ⟨g, cap, cur, rfl, _⟩
  · exact ⟨none, 0, by rw [h0]⟩
  · exact ⟨_, cap, rfl⟩

set_option maxRecDepth 100000 in
set_option maxHeartbeats 1600000 in
theorem sRebuildText_calls (vc vu : Value) (C : List ByteArray) (U : List (List Int)) (k : Int) (w : World) (hc : RdT w vc C) (hu : RdM w vu U) (hn : C.length ≤ 1048576) :
    Calls Try.prog 22 #[.agg #[vc, vu], .int .i64 k] w fun e w' => e = .returned (.tuple #[.string (rebR C U k).1, .bool (rebR C U k).2]) ∧ Below w.heap.size w w' := by
  have RC := hide hc
  have RU := hide hu
  obtain ⟨ac, cc, rfl, _, hcm, _, hc3⟩ := hc
  obtain ⟨au, cu, rfl, _, hum, _⟩ := hu
  have C3 := hide hc3
  have hlu : U.length ≤ maxLen := by omega
  unfold maxLen at hlu
  clear hcm hum hc3
  have F1 : Hid (Boxed2 (w.alloc (.cells #[.slice ac C.length cc, .slice au U.length cu] 27)) w.heap.size 27 (.slice ac C.length cc) (.slice au U.length cu)) := boxed2_new w _ _ _
  have B0 : Hid (Below w.heap.size w (w.alloc (.cells #[.slice ac C.length cc, .slice au U.length cu] 27))) := (Below.refl _ w).alloc (Nat.le_refl _) _
  have GC := hide (fun W hC hU => l9Recipe_calls (.slice ac C.length cc) (.slice au U.length cu) C U W hC hU hn)
  have RC0 := hide (RC.out.below B0.out)
  have RU0 := hide (RU.out.below B0.out)
  have hsz : (w.alloc (.cells #[.slice ac C.length cc, .slice au U.length cu] 27)).heap.size = w.heap.size + 1 := by simp
  obtain ⟨i0, hi0, hz0, hz1, hz2⟩ := info_parts infoStr
  have IP := hide (And.intro hi0 (And.intro hz0 (And.intro hz1 hz2)))
  clear hi0 hz0 hz1 hz2
  by_cases hg : goodRec C U
  case neg =>
    rw [show rebR C U k = (⟨#[]⟩, false) from if_neg (fun h => hg h.1)]
    rw [decide_eq_false hg] at GC
    go_enter Try.func22, Try.ntmps22
    go_wp2_with fail
    refine (GC.out _ RC0.out RU0.out).mono ?_
    rintro e w1 ⟨rfl, b1⟩
    have S1 := hide (B0.out.trans (b1.mono B0.out.size))
    clear b1
    go_wp2
    go_ret2
    exact ⟨rfl, S1.out⟩
  rw [decide_eq_true hg] at GC
  by_cases hk0 : 0 ≤ k
  case neg =>
    rw [show rebR C U k = (⟨#[]⟩, false) from if_neg (fun h => hk0 h.2.1)]
    have hk0' : k < 0 := by omega
    go_enter Try.func22, Try.ntmps22
    go_wp2_with fail
    refine (GC.out _ RC0.out RU0.out).mono ?_
    rintro e w1 ⟨rfl, b1⟩
    have S1 := hide (B0.out.trans (b1.mono B0.out.size))
    clear b1
    go_wp2
    go_ret2
    exact ⟨rfl, S1.out⟩
  have hk0' : ¬ k < 0 := by omega
  have hk0b : decide (k < 0) = false := decide_eq_false hk0'
  go_enter Try.func22, Try.ntmps22
  go_wp2_with fail
  refine (GC.out _ RC0.out RU0.out).mono ?_
  rintro e w1 ⟨rfl, b1⟩
  have S1 := hide (B0.out.trans (b1.mono B0.out.size))
  have g10 : w1.cell? ⟨w.heap.size, 0, none⟩ = some (.slice ac C.length cc) := (b1.cell (p := ⟨w.heap.size, 0, none⟩) (by show w.heap.size < _; omega)).trans F1.out.c0
  have g11 : w1.cell? ⟨w.heap.size, 1, none⟩ = some (.slice au U.length cu) := (b1.cell (p := ⟨w.heap.size, 1, none⟩) (by show w.heap.size < _; omega)).trans F1.out.c1
  have hl1 : w.heap.size < w1.heap.size := by have := b1.size; omega
  have RC1 := hide (RC0.out.below b1)
  have RU1 := hide (RU0.out.below b1)
  clear b1 RC0 RU0 F1
  by_cases hk1 : k < (U.length : Int)
  case neg =>
    have ER := hide (show rebR C U k = (⟨#[]⟩, false) from if_neg (fun h => hk1 h.2.2))
    have hk1' : (U.length : Int) ≤ k := by omega
    go_wp2
    go_ret2
    exact ⟨by rw [ER.out]; rfl, S1.out⟩
  have hk1' : ¬ (U.length : Int) ≤ k := by omega
  have hk1b : decide ((U.length : Int) ≤ k) = false := decide_eq_false hk1'
  have ER := hide (show rebR C U k = jchR (pick9 C (U.getD k.toNat [])) from if_pos ⟨hg, hk0, hk1⟩)
  obtain ⟨j, rfl⟩ := Int.eq_ofNat_of_zero_le hk0
  rw [Int.toNat_natCast] at ER
  have hj : j < U.length := by omega
  have hjn : ¬ U.length ≤ j := by omega
  have hjb : decide (U.length ≤ j) = false := decide_eq_false hjn
  obtain ⟨p1, p2, p3⟩ := pick9_small hg j hj
  obtain ⟨bu, ou, u, hau, hcu, hru⟩ := RU1.out.row j hj
  subst hau
  have US := hide (hg.2.2.2.2 j hj)
  generalize U.getD j [] = xs at ER p1 p2 p3 US hru
  have hx8 := US.out.1
  obtain ⟨ax, cx, rfl, hx1, hx2, hx3⟩ := hru
  have X3 := hide hx3
  have P2 := hide p2
  have P3 := hide p3
  have PL := hide (pick9_length C xs)
  have PG := hide (pick9_getD C xs)
  have G10 := hide g10
  have O0 : Hid (w1.ownsRow w1.heap.size 9 1 (.slice none 0 0) 0 (((pick9 C xs).map Value.string).take 0)) := World.ownsRow_nil _ _ _ _
  have RCW := hide RC1.out
  clear p2 p3 hg g10 hx1 hx2 hx3
  generalize pick9 C xs = ys at ER p1 P2 P3 PL PG O0
  go_wp2
  go_loopw [6, 29] (fun vo vi wr => ∃ n : Nat, n ≤ xs.length ∧ vi = .int .i64 n ∧ wr.ownsRow w1.heap.size 9 1 vo n ((ys.map Value.string).take n) ∧ Below w1.heap.size w1 wr) (fun _ vi _ => xs.length - (intOf vi).toNat)
  case atStart => exact ⟨0, Nat.zero_le _, rfl, O0.out, Below.refl _ _⟩
  case round =>
    obtain ⟨n, hnn, rfl, hown, hb⟩ := hrel
    have O := hide hown
    have HB := hide hb
    have hbs := hb.size
    clear hown
    by_cases hnl : n < xs.length
    · rcases X3.out with h3 | ⟨bx, ox, rfl, hbx, hcx⟩
      · rw [h3] at hnl; simp at hnl
      have hcx1 : wr.cell? ⟨bx, ox + n, none⟩ = some (.int .i64 (xs.getD n 0)) := (hb.cell (p := ⟨bx, ox + n, none⟩) hbx).trans (hcx n hnl)
      have hg1 : wr.cell? ⟨w.heap.size, 0, none⟩ = some (.slice ac C.length cc) := (hb.cell (p := ⟨w.heap.size, 0, none⟩) hl1).trans G10.out
      obtain ⟨hx0, hxl⟩ := US.out.2 n hnl
      have hyn := PG.out n hnl
      obtain ⟨q, hq⟩ := Int.eq_ofNat_of_zero_le hx0
      rw [hq] at hcx1 hxl hyn
      rw [Int.toNat_natCast] at hyn
      have hqc : q < C.length := by omega
      obtain ⟨ac', cc', hvc, _, _, _, h3c⟩ := RC1.out.below hb
      simp only [Value.slice.injEq] at hvc
      obtain ⟨rfl, _, rfl⟩ := hvc
      rcases h3c with h3 | ⟨bc, oc, rfl, hbc, hcc⟩
      · rw [h3] at hqc; simp at hqc
      have hcc1 := hcc q hqc
      rw [← hyn] at hcc1
      have hst : Hid ((ys.map Value.string).take (n + 1) = (ys.map Value.string).take n ++ [.string (ys.getD n ⟨#[]⟩)]) := by
        show _ = _
        have hyl : n < ys.length := by rw [PL.out]; exact hnl
        rw [List.take_succ_eq_append_getElem (by rw [List.length_map]; exact hyl), List.getElem_map, List.getD_eq_getElem?_getD, List.getElem?_eq_getElem hyl]
        rfl
      generalize ys.getD n ⟨#[]⟩ = z at hcc1 hst
      have hnl' : (n : Int) < (xs.length : Int) := by omega
      have hqc' : (q : Int) < (C.length : Int) := by omega
      clear hcx hcc hyn hq hb hx0 hxl
      go_wp2_with (at_builtin; refine wpList_append_own (w := wr.alloc (.cells #[.string z] 9)) rfl _ _ _ rfl w1.heap.size 9 i0 (.string ⟨#[]⟩) 1 16 Try.underlying23 IP.out.1 IP.out.2.1 IP.out.2.2.1 IP.out.2.2.2 rfl (by decide) _ n _ rfl (O.out.alloc _) ⟨wr.heap.size, 0, none⟩ 1 1 [.string z] rfl rfl (cell_one_new _ _ _) (by simp [Value.oneCell']) (by unfold maxLen; omega) (by omega) (by simp; omega) ?_)
      intro v' w2 o2 g2 _
      have B2 := hide ((HB.out.alloc hbs (.cells #[.string z] 9)).grown g2 (by simp; omega) (own_ge8 O.out))
      have O1 := hide o2
      clear o2 g2
      go_wp2
      go_roundw
      case rel => exact ⟨n + 1, by omega, by go_num, by rw [hst.out]; exact O1.out, B2.out⟩
      case measure => simp [intOf]; omega
    · obtain rfl : n = xs.length := by omega
      have oo : ∀ v, wr.ownsRow w1.heap.size 9 1 v xs.length ((ys.map Value.string).take xs.length) → OwnT wr w1.heap.size v ys := by
        intro v h
        have el : (ys.map Value.string).take xs.length = ys.map Value.string := List.take_of_length_le (by rw [List.length_map, PL.out]; exact Nat.le_refl _)
        rw [el, ← PL.out] at h
        exact h
      have R2 := hide ((oo _ O.out).rd P3.out)
      have hv := own_slice6 (oo _ O.out)
      obtain ⟨a2, c2, hv2⟩ := hv
      have S2 := hide (S1.out.trans (HB.out.mono S1.out.size))
      clear hb O
      subst hv2
      go_wp2_with fail
      refine (sJoinChunks_calls _ ys _ R2.out p1 P2.out).mono ?_
      rintro e w3 ⟨rfl, b3⟩
      have S3 := hide (S2.out.trans (b3.mono S2.out.size))
      clear b3
      go_wp2
      go_ret2
      exact ⟨by rw [ER.out]; rfl, S3.out⟩

set_option maxRecDepth 100000 in
set_option maxHeartbeats 800000 in
theorem eqRecipe_same (vc vu vc' vu' : Value) (C : List ByteArray) (U : List (List Int)) (w : World) (hc : RdT w vc C) (hu : RdM w vu U) (hc' : RdT w vc' C) (hu' : RdM w vu' U) :
    Calls Try.prog 52 #[.agg #[vc, vu], .agg #[vc', vu']] w fun e w' => e = .returned (.bool true) ∧ Below w.heap.size w w' := by
  have RC := hide hc
  have RU := hide hu
  have RC' := hide hc'
  have RU' := hide hu'
  obtain ⟨ac, cc, rfl, _⟩ := hc
  obtain ⟨au, cu, rfl, _⟩ := hu
  obtain ⟨ac', cc', rfl, _⟩ := hc'
  obtain ⟨au', cu', rfl, _⟩ := hu'
  have F1 : Hid (Boxed2 ((w.alloc (.cells #[.slice ac C.length cc, .slice au U.length cu] 27)).alloc (.cells #[.slice ac' C.length cc', .slice au' U.length cu'] 27)) w.heap.size 27 (.slice ac C.length cc) (.slice au U.length cu)) := boxed2_alloc (boxed2_new w _ _ _) _
  have F2 : Hid (Boxed2 ((w.alloc (.cells #[.slice ac C.length cc, .slice au U.length cu] 27)).alloc (.cells #[.slice ac' C.length cc', .slice au' U.length cu'] 27)) (w.heap.size + 1) 27 (.slice ac' C.length cc') (.slice au' U.length cu')) := by
    have := boxed2_new (w.alloc (.cells #[.slice ac C.length cc, .slice au U.length cu] 27)) 27 (.slice ac' C.length cc') (.slice au' U.length cu')
    rwa [World.size_alloc] at this
  have B0 : Hid (Below w.heap.size w ((w.alloc (.cells #[.slice ac C.length cc, .slice au U.length cu] 27)).alloc (.cells #[.slice ac' C.length cc', .slice au' U.length cu'] 27))) := ((Below.refl _ w).alloc (Nat.le_refl _) _).alloc (by simp) _
  have hsz : ((w.alloc (.cells #[.slice ac C.length cc, .slice au U.length cu] 27)).alloc (.cells #[.slice ac' C.length cc', .slice au' U.length cu'] 27)).heap.size = w.heap.size + 2 := by simp
  go_enter Try.func52, Try.ntmps52
  go_wp2_with fail
  refine (eqStringS_same _ _ C _ (RC.out.below B0.out) (RC'.out.below B0.out)).mono ?_
  rintro e w1 ⟨rfl, b1⟩
  have S1 := hide (B0.out.trans (b1.mono B0.out.size))
  have g1 : w1.cell? ⟨w.heap.size, 1, none⟩ = some (.slice au U.length cu) := (b1.cell (p := ⟨w.heap.size, 1, none⟩) (by show w.heap.size < _; omega)).trans F1.out.c1
  have g2 : w1.cell? ⟨w.heap.size + 1, 1, none⟩ = some (.slice au' U.length cu') := (b1.cell (p := ⟨w.heap.size + 1, 1, none⟩) (by show w.heap.size + 1 < _; omega)).trans F2.out.c1
  clear b1
  go_wp2_with fail
  refine (eqIntSS_same _ _ U _ (RU.out.below S1.out) (RU'.out.below S1.out)).mono ?_
  rintro e w2 ⟨rfl, b2⟩
  have S2 := hide (S1.out.trans (b2.mono S1.out.size))
  clear b2
  go_wp2
  go_ret
  exact ⟨rfl, S2.out⟩

end Go.Proofs.Ythmijjcddjlebaa

namespace Go.Proofs.Ythmijjcddjlebaa
open Go.RowKit
set_option linter.unusedVariables false

/-- From B on nothing that was there is written. -/
def From9 (B : Nat) (w w' : World) : Prop := w.heap.size ≤ w'.heap.size ∧ ∀ k, B ≤ k → k < w.heap.size → w'.heap[k]? = w.heap[k]?
theorem From9.trans {B : Nat} {a b c : World} (h : From9 B a b) (k : From9 B b c) : From9 B a c := ⟨Nat.le_trans h.1 k.1, fun i hi hl => (k.2 i hi (Nat.lt_of_lt_of_le hl h.1)).trans (h.2 i hi hl)⟩
theorem From9.below {B : Nat} {a b : World} (h : Below a.heap.size a b) : From9 B a b := ⟨h.size, fun k _ hl => h.block k hl⟩
theorem From9.setCell {B : Nat} (w : World) (g i : Nat) (v : Value) (hg : g < B) : From9 B w (w.setCell ⟨g, i, none⟩ v) := ⟨by simp [World.setCell], fun k hk _ => Below.heap_setCell w _ v k (by show k ≠ g; omega)⟩
theorem ownsRow_from {B base n size : Nat} {e : TypeId} {v : Value} {xs : List Value} {w w' : World} (h : w.ownsRow base e size v n xs) (hf : From9 B w w') (hb : B ≤ base) : w'.ownsRow base e size v n xs := by
  refine ⟨h.1, ?_⟩
  rcases h.2 with hn | ⟨g, cap, cur, rfl, hb', hg, rest⟩
  · exact .inl hn
  · exact .inr ⟨g, cap, cur, rfl, hb', (hf.2 g (by omega) (Array.getElem?_eq_some_iff.1 hg).1).trans hg, rest⟩
theorem mat_from {B lo hi : Nat} {v : Value} {m : List (List Int)} {w w' : World} (h : Mat w lo hi v m) (hf : From9 B w w') (hb : B ≤ lo) : Mat w' lo hi v m := by
  obtain ⟨vs, hv⟩ := h
  exact ⟨vs, hv.len, ownsRow_from hv.head hf hb, fun i hi => ownsRow_from (hv.row i hi) hf hb, hv.top, hv.tops, hv.apart⟩
theorem boxed2_set0 {W : World} {B : Nat} {t : TypeId} {v u : Value} (h : Boxed2 W B t v u) (x : Value) : Boxed2 (W.setCell ⟨B, 0, none⟩ x) B t x u := by
  obtain ⟨hlt, hk⟩ := Array.getElem?_eq_some_iff.1 h
  show (W.heap.modify B _)[B]? = _
  rw [Array.getElem?_eq_getElem (by rw [Array.size_modify]; exact hlt), Array.getElem_modify_self, hk]
  rfl
theorem boxed2_set1 {W : World} {B : Nat} {t : TypeId} {v u : Value} (h : Boxed2 W B t v u) (x : Value) : Boxed2 (W.setCell ⟨B, 1, none⟩ x) B t v x := by
  obtain ⟨hlt, hk⟩ := Array.getElem?_eq_some_iff.1 h
  show (W.heap.modify B _)[B]? = _
  rw [Array.getElem?_eq_getElem (by rw [Array.size_modify]; exact hlt), Array.getElem_modify_self, hk]
  rfl
theorem boxed2_far {W : World} {B g i : Nat} {t : TypeId} {v u x : Value} (h : Boxed2 W B t v u) (hne : B ≠ g) : Boxed2 (W.setCell ⟨g, i, none⟩ x) B t v u := (Below.heap_setCell W ⟨g, i, none⟩ x B hne).trans h
theorem boxed2_below {W W' : World} {B : Nat} {t : TypeId} {v u : Value} (h : Boxed2 W B t v u) (hb : Below W.heap.size W W') : Boxed2 W' B t v u := (hb.block B (Array.getElem?_eq_some_iff.1 h).1).trans h
theorem Boxed2.f0 {W : World} {B : Nat} {t : TypeId} {v u : Value} (h : Boxed2 W B t v u) (i : Nat) : W.frozen? ⟨B, i, none⟩ = false := frozen_of_row W B i _ _ h
theorem rcpInfo : (Try.prog.info? 27).map (·.size) = some 2 := by kernel_rfl
theorem res_rcp {fn : Func} {x : Tmp} (hf : fn.results = #[.cell x 27]) (tmps : Array Value) (w : World) (g : Nat) (p h : Value) (fr : Nat × Nat) (hp : tmps.getD x undef = .pointer (some ⟨g, 0, none⟩))
    (hg : w.heap[g]? = some (.cells #[p, h] 27 fr)) : (results fn tmps).run Try.prog w = .ok (.agg #[p, h]) w :=
  results_cell_row hf tmps w g _ _ fr _ hp hg Try.underlying27 rfl rcpInfo

end Go.Proofs.Ythmijjcddjlebaa
