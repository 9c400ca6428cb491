/-
  Numbers put to their places, and looked up: the model's l1Put and l1Has, call by call. Each contract says what it asks.
-/
import Derived.Test.YtakhggnbhjoojaaRca
namespace Go.Proofs.Ytakhggnbhjoojaa
open Go.RowKit
set_option linter.unusedVariables false

theorem rd_takeR {w : World} {a : Option Addr} {n cap : Nat} {xs : List Int} (h : Rd w (.slice a n cap) xs) (i : Nat) (hi : i ≤ xs.length) : Rd w (.slice a i cap) (xs.take i) := by
  obtain ⟨a', cap', hv, h1, h2, h3⟩ := h
  simp only [Value.slice.injEq] at hv
  obtain ⟨rfl, rfl, rfl⟩ := hv
  have hl : (xs.take i).length = i := by simp; omega
  refine ⟨a, cap, by rw [hl], by rw [hl]; omega, h2, ?_⟩
  rcases h3 with h3 | ⟨b, off, rfl, hlt, hc⟩
  · subst h3; exact .inl (by simp)
  · refine .inr ⟨b, off, rfl, hlt, fun j hj => ?_⟩
    rw [hl] at hj
    rw [hc j (by omega)]
    simp [List.getD_eq_getElem?_getD, hj]
theorem rd_dropR {w : World} {b off n cap : Nat} {xs : List Int} (h : Rd w (.slice (some ⟨b, off, none⟩) n cap) xs) (p : Nat) (hp : p < xs.length) : Rd w (.slice (some ⟨b, off + p, none⟩) (n - p) (cap - p)) (xs.drop p) := by
  obtain ⟨a', cap', hv, h1, h2, h3⟩ := h
  simp only [Value.slice.injEq] at hv
  obtain ⟨rfl, rfl, rfl⟩ := hv
  have hl : (xs.drop p).length = xs.length - p := List.length_drop
  refine ⟨_, cap - p, by rw [hl], by rw [hl]; omega, ⟨by have := h2.1; omega, fun h => by cases h⟩, ?_⟩
  rcases h3 with h3 | ⟨b', off', he, hlt, hc⟩
  · subst h3; simp at hp
  · simp only [Option.some.injEq, Addr.mk.injEq, and_true] at he
    obtain ⟨rfl, rfl⟩ := he
    refine .inr ⟨b, off + p, rfl, hlt, fun i hi => ?_⟩
    rw [hl] at hi
    have := hc (p + i) (by omega)
    rw [← Nat.add_assoc] at this
    rw [this]
    simp [List.getD_eq_getElem?_getD]

theorem rd_singleR {w : World} {z : Int} : Rd (w.alloc (.cells #[.int .i64 z] 3)) (.slice (some ⟨w.heap.size, 0, none⟩) 1 1) [z] := by
  refine ⟨_, 1, rfl, Nat.le_refl _, ⟨by unfold maxLen; omega, fun h => by cases h⟩, .inr ⟨_, 0, rfl, by simp, fun i hi => ?_⟩⟩
  simp at hi
  subst hi
  exact World.cell?_alloc_at _ _ _ _ (by simp)
set_option maxRecDepth 100000 in
set_option maxHeartbeats 3200000 in
theorem l1PutE_calls (v : Value) (xs : List Int) (n : Int) (w : World) (h : Rd w v xs) (hl : xs.length ≤ 64) :
    Calls Try.prog 116 #[v, .int .i64 n] w fun e w' => ∃ v' : Value, e = .returned v' ∧ ((v' = v ∧ putS n xs = xs) ∨ Own w' w.heap.size v' (putS n xs)) ∧ Below w.heap.size w w' := by
  have R := hide h
  obtain ⟨a, cap, rfl, hcap, hcm, _⟩ := h
  go_enter Try.func116, Try.ntmps116
  go_wp2
  go_loop [5] (fun vk => ∃ k : Nat, k ≤ xs.length ∧ vk = .int .i64 k ∧ ∀ i, i < k → xs.getD i 0 < n) (fun vk => xs.length - (intOf vk).toNat)
  case atStart => exact ⟨0, Nat.zero_le _, rfl, fun i hi => by omega⟩
  case round =>
    obtain ⟨k, hk, rfl, hal⟩ := hrel
    have AL := hide hal
    clear hal
    by_cases hlt : k < xs.length
    · have hlt' : (k : Int) < (xs.length : Int) := by omega
      obtain ⟨b, off, rfl, hc⟩ := R.out.cellAt k hlt
      obtain ⟨x, hx⟩ : ∃ x, x = xs.getD k 0 := ⟨_, rfl⟩
      rw [← hx] at hc
      have HXE := hide hx
      clear hx
      by_cases hxn : x < n
      · go_wp2
        go_round
        case rel =>
          refine ⟨k + 1, by omega, by go_num, fun i hi => ?_⟩
          by_cases e : i = k
          · subst e; rw [← HXE.out]; exact hxn
          · exact AL.out i (by omega)
        case measure => simp [intOf]; omega
      · by_cases hxe : x = n
        · have te : (x == n) = true := by simp [hxe]
          have HX := hide hxe
          clear hxe
          go_wp2
          go_ret
          exact ⟨_, rfl, .inl ⟨rfl, putS_same n k xs hlt AL.out (HXE.out.symm.trans HX.out)⟩, Below.refl _ _⟩
        · have te : (x == n) = false := by simp [hxe]
          have PM : Hid (putS n xs = (xs.take k ++ [n]) ++ xs.drop k) := putS_mid n k xs hlt AL.out (by rw [← HXE.out]; exact hxn) (by rw [← HXE.out]; exact hxe)
          have RT := hide (rd_takeR R.out k hk)
          have RD := hide (rd_dropR R.out k hlt)
          have i1 : (k : Int) ≤ (cap : Int) := by omega
          have i2 : ¬ cap = k := by omega
          have i3 : (k : Int) ≤ (xs.length : Int) := by omega
          clear hxe
          go_wp2_with (at_builtin; refine wpList_append_rd rfl (.tmp 34) (.tmp 37) rfl w.heap.size _ 0 [] (xs.take k) rfl (World.ownsRow_nil _ _ _ _) _ rfl RT.out (by rw [List.length_take]; omega) (Nat.le_refl _) ?_)
          intro v1 w1 ho1 hg1
          have b1 : Below w.heap.size w w1 := (Below.refl _ _).grown hg1 (Nat.le_refl _) (fun j hj => by cases hj)
          have ho1 : Own w1 w.heap.size v1 (xs.take k) := ho1
          have B1 := hide b1
          have l1 : (xs.take k).length = k := by rw [List.length_take]; omega
          have O1 := hide (ho1.alloc (.cells #[.int .i64 n] 3))
          have low1 : Hid (∀ j, v1.ownBlock = some j → w.heap.size ≤ j) := fun j hj => (ho1.lt j hj).1
          have L1 := hide l1
          clear ho1 hg1 b1 l1
          go_wp2_with (at_builtin; refine wpList_append_rd rfl (.tmp 39) (.tmp 41) rfl w.heap.size _ (xs.take k).length (xs.take k) [n] rfl O1.out _ rfl rd_singleR (by rw [L1.out]; simp; omega) (by have := B1.out.size; simp; omega) ?_)
          intro v2 w2 ho2 hg2
          have b2 : Below w.heap.size w w2 := (B1.out.alloc B1.out.size _).grown hg2 (by have := B1.out.size; simp; omega) low1.out
          have B2 := hide b2
          have O2 := hide ho2
          have low2 : Hid (∀ j, v2.ownBlock = some j → w.heap.size ≤ j) := fun j hj => (ho2.lt j hj).1
          have RD2 := hide (RD.out.below b2)
          have L2 : Hid ((xs.take k ++ [n]).length = k + 1) := by show (xs.take k ++ [n]).length = k + 1; rw [List.length_append, L1.out]; rfl
          clear ho2 hg2 b2
          go_wp2_with (at_builtin; refine wpList_append_rd rfl (.tmp 43) (.tmp 46) rfl w.heap.size _ (xs.take k ++ [n]).length (xs.take k ++ [n]) (xs.drop k) rfl O2.out _ rfl RD2.out (by rw [L2.out, List.length_drop]; omega) (by have := B2.out.size; omega) ?_)
          intro v3 w3 ho3 hg3
          have B3 : Hid (Below w.heap.size w w3) := B2.out.grown hg3 B2.out.size low2.out
          have R3 : Hid (Own w3 w.heap.size v3 (putS n xs)) := by show Own _ _ _ _; rw [PM.out]; simpa using ho3
          clear ho3 hg3
          go_wp2
          go_ret
          exact ⟨_, rfl, .inr R3.out, B3.out⟩
    · obtain rfl : k = xs.length := by omega
      have i1 : (xs.length : Int) ≤ (cap : Int) := by omega
      have RT : Hid (Rd w (.slice a xs.length cap) xs) := R.out
      by_cases hce : cap = xs.length
      · obtain rfl : cap = xs.length := hce
        go_wp2_with (at_builtin; refine wpList_append_rd rfl (.tmp 34) (.tmp 37) rfl w.heap.size _ 0 [] xs rfl (World.ownsRow_nil _ _ _ _) _ rfl RT.out (by omega) (Nat.le_refl _) ?_)
        intro v1 w1 ho1 hg1
        have b1 : Below w.heap.size w w1 := (Below.refl _ _).grown hg1 (Nat.le_refl _) (fun j hj => by cases hj)
        have ho1 : Own w1 w.heap.size v1 xs := ho1
        have B1 := hide b1
        have O1 := hide (ho1.alloc (.cells #[.int .i64 n] 3))
        have low1 : Hid (∀ j, v1.ownBlock = some j → w.heap.size ≤ j) := fun j hj => (ho1.lt j hj).1
        clear ho1 hg1 b1
        go_wp2_with (at_builtin; refine wpList_append_rd rfl (.tmp 39) (.tmp 41) rfl w.heap.size _ xs.length xs [n] rfl O1.out _ rfl rd_singleR (by simp; omega) (by have := B1.out.size; simp; omega) ?_)
        intro v2 w2 ho2 hg2
        have b2 : Below w.heap.size w w2 := (B1.out.alloc B1.out.size _).grown hg2 (by have := B1.out.size; simp; omega) low1.out
        have B2 := hide b2
        have O2 := hide ho2
        have low2 : Hid (∀ j, v2.ownBlock = some j → w.heap.size ≤ j) := fun j hj => (ho2.lt j hj).1
        have L2 : Hid ((xs ++ [n]).length = xs.length + 1) := by show (xs ++ [n]).length = xs.length + 1; simp
        clear ho2 hg2 b2
        go_wp2_with (at_builtin; refine wpList_append_rd rfl (.tmp 43) (.tmp 46) rfl w.heap.size _ (xs ++ [n]).length (xs ++ [n]) [] rfl O2.out _ rfl ⟨_, _, rfl, Nat.zero_le _, ⟨by omega, by intro h; first | rfl | omega | (cases h)⟩, .inl rfl⟩ (by rw [L2.out]; simp; omega) (by have := B2.out.size; omega) ?_)
        intro v3 w3 ho3 hg3
        have B3 : Hid (Below w.heap.size w w3) := B2.out.grown hg3 B2.out.size low2.out
        have R3 : Hid (Own w3 w.heap.size v3 (putS n xs)) := by show Own _ _ _ _; rw [putS_end n xs AL.out]; simpa using ho3
        clear ho3 hg3
        go_wp2
        go_ret
        exact ⟨_, rfl, .inr R3.out, B3.out⟩
      · have ce : ¬ cap = xs.length := hce
        obtain ⟨ad, rfl⟩ : ∃ ad, a = some ad := by
          cases a with
          | none => exact absurd (by have := hcm.2 rfl; omega) ce
          | some ad => exact ⟨ad, rfl⟩
        go_wp2_with (at_builtin; refine wpList_append_rd rfl (.tmp 34) (.tmp 37) rfl w.heap.size _ 0 [] xs rfl (World.ownsRow_nil _ _ _ _) _ rfl RT.out (by omega) (Nat.le_refl _) ?_)
        intro v1 w1 ho1 hg1
        have b1 : Below w.heap.size w w1 := (Below.refl _ _).grown hg1 (Nat.le_refl _) (fun j hj => by cases hj)
        have ho1 : Own w1 w.heap.size v1 xs := ho1
        have B1 := hide b1
        have O1 := hide (ho1.alloc (.cells #[.int .i64 n] 3))
        have low1 : Hid (∀ j, v1.ownBlock = some j → w.heap.size ≤ j) := fun j hj => (ho1.lt j hj).1
        clear ho1 hg1 b1
        go_wp2_with (at_builtin; refine wpList_append_rd rfl (.tmp 39) (.tmp 41) rfl w.heap.size _ xs.length xs [n] rfl O1.out _ rfl rd_singleR (by simp; omega) (by have := B1.out.size; simp; omega) ?_)
        intro v2 w2 ho2 hg2
        have b2 : Below w.heap.size w w2 := (B1.out.alloc B1.out.size _).grown hg2 (by have := B1.out.size; simp; omega) low1.out
        have B2 := hide b2
        have O2 := hide ho2
        have low2 : Hid (∀ j, v2.ownBlock = some j → w.heap.size ≤ j) := fun j hj => (ho2.lt j hj).1
        have L2 : Hid ((xs ++ [n]).length = xs.length + 1) := by show (xs ++ [n]).length = xs.length + 1; simp
        clear ho2 hg2 b2
        go_wp2_with (at_builtin; refine wpList_append_rd rfl (.tmp 43) (.tmp 46) rfl w.heap.size _ (xs ++ [n]).length (xs ++ [n]) [] rfl O2.out _ rfl ⟨_, _, rfl, Nat.zero_le _, ⟨by omega, by intro h; first | rfl | omega | (cases h)⟩, .inl rfl⟩ (by rw [L2.out]; simp; omega) (by have := B2.out.size; omega) ?_)
        intro v3 w3 ho3 hg3
        have B3 : Hid (Below w.heap.size w w3) := B2.out.grown hg3 B2.out.size low2.out
        have R3 : Hid (Own w3 w.heap.size v3 (putS n xs)) := by show Own _ _ _ _; rw [putS_end n xs AL.out]; simpa using ho3
        clear ho3 hg3
        go_wp2
        go_ret
        exact ⟨_, rfl, .inr R3.out, B3.out⟩
set_option maxRecDepth 100000 in
set_option maxHeartbeats 400000 in
theorem l1HasE_calls (v : Value) (xs : List Int) (n : Int) (y : Bool) (w : World) (h : Rd w v xs) (hy : y = true ↔ n ∈ xs) :
    Calls Try.prog 91 #[v, .int .i64 n] w fun e w' => e = .returned (.bool y) ∧ w = w' := by
  have R := hide h
  have HY := hide hy
  obtain ⟨a, cap, rfl, hq, mh, _⟩ := h
  have hmx := mh.1
  unfold maxLen at hmx
  clear hy
  go_enter Try.func91, Try.ntmps91
  go_wp2
  go_loop [9] (fun vi => ∃ k : Nat, k ≤ xs.length ∧ vi = .int .i64 k ∧ ∀ i, i < k → ¬ xs.getD i 0 = n) (fun vi => xs.length - (intOf vi).toNat)
  case atStart => exact ⟨0, Nat.zero_le _, rfl, fun i hi => by omega⟩
  case round =>
    obtain ⟨k, hk, rfl, hall⟩ := hrel
    have A := hide hall
    clear hall
    by_cases hlt : k < xs.length
    · have hlt' : (k : Int) < (xs.length : Int) := by omega
      obtain ⟨b, off, rfl, hc1⟩ := R.out.cellAt k hlt
      have M : Hid (xs.getD k 0 ∈ xs) := by
        show _ ∈ _
        rw [List.getD_eq_getElem?_getD, List.getElem?_eq_getElem hlt]
        exact List.getElem_mem hlt
      obtain ⟨x, hx⟩ : ∃ x, x = xs.getD k 0 := ⟨_, rfl⟩
      rw [← hx] at hc1 M
      have HX := hide hx
      clear hx
      by_cases hxn : x = n
      · subst hxn
        go_wp2
        go_ret
        exact ⟨ret_bool (HY.out.2 M.out).symm, rfl⟩
      · have hxb : (x == n) = false := by simpa using hxn
        go_wp2
        go_round
        case rel =>
          refine ⟨k + 1, by omega, by go_num, fun i hi => ?_⟩
          by_cases e : i = k
          · subst e; rw [← HX.out]; exact hxn
          · exact A.out i (by omega)
        case measure => simp [intOf]; omega
    · obtain rfl : k = xs.length := by omega
      go_wp2
      go_ret
      refine ⟨ret_bool ?_, rfl⟩
      cases y with
      | false => rfl
      | true =>
        obtain ⟨i, hi, he⟩ := List.mem_iff_getElem.1 (HY.out.1 rfl)
        exact absurd (by rw [List.getD_eq_getElem?_getD, List.getElem?_eq_getElem hi]; exact he) (A.out i hi)
end Go.Proofs.Ytakhggnbhjoojaa
