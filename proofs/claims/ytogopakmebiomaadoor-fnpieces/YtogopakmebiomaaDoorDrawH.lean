/-
  A number put to its place, once: the model's function, call by call. No condition.
-/
import Derived.Test.YtogopakmebiomaaDoorDrawG
namespace Go.Proofs.YtogopakmebiomaaDoor
open Go.RowKit

theorem rd_take2 {w : World} {a : Option Addr} {n cap : Nat} {xs : List Int} (h : Rd w (.slice a n cap) xs) (i : Nat) (hi : i ≤ xs.length) : Rd w (.slice a i cap) (xs.take i) := by
  obtain ⟨a', cap', hv, h1, h2, h3⟩ := h
  simp only [Value.slice.injEq] at hv
  obtain ⟨rfl, rfl, rfl⟩ := hv
  have hl : (xs.take i).length = i := by simp; omega
  refine ⟨a, cap, by rw [hl], by rw [hl]; omega, h2, ?_⟩
  rcases h3 with h3 | ⟨b, off, rfl, hlt, hc⟩
  · subst h3; exact .inl (by simp)
  · refine .inr ⟨b, off, rfl, hlt, fun j hj => ?_⟩
    rw [hl] at hj
    rw [hc j (by omega)]
    simp [List.getD_eq_getElem?_getD, hj]
theorem rd_drop2 {w : World} {b off n cap : Nat} {xs : List Int} (h : Rd w (.slice (some ⟨b, off, none⟩) n cap) xs) (p : Nat) (hp : p < xs.length) : Rd w (.slice (some ⟨b, off + p, none⟩) (n - p) (cap - p)) (xs.drop p) := by
  obtain ⟨a', cap', hv, h1, h2, h3⟩ := h
  simp only [Value.slice.injEq] at hv
  obtain ⟨rfl, rfl, rfl⟩ := hv
  have hl : (xs.drop p).length = xs.length - p := List.length_drop
  refine ⟨_, cap - p, by rw [hl], by rw [hl]; omega, ⟨by have := h2.1; omega, fun h => by cases h⟩, ?_⟩
  rcases h3 with h3 | ⟨b', off', he, hlt, hc⟩
  · subst h3; simp at hp
  · simp only [Option.some.injEq, Addr.mk.injEq, and_true] at he
    obtain ⟨rfl, rfl⟩ := he
    refine .inr ⟨b, off + p, rfl, hlt, fun i hi => ?_⟩
    rw [hl] at hi
    have := hc (p + i) (by omega)
    rw [← Nat.add_assoc] at this
    rw [this]
    simp [List.getD_eq_getElem?_getD]

theorem results_four {fn : Func} {t u v x : Tmp} (h : fn.results = #[.tmp t, .tmp u, .tmp v, .tmp x]) (tmps : Array Value) (P : Program) (w : World) :
    (results fn tmps).run P w = .ok (.tuple #[tmps.getD t undef, tmps.getD u undef, tmps.getD v undef, tmps.getD x undef]) w := by
  simp [results, h]
theorem results_five {fn : Func} {t u v x y : Tmp} (h : fn.results = #[.tmp t, .tmp u, .tmp v, .tmp x, .tmp y]) (tmps : Array Value) (P : Program) (w : World) :
    (results fn tmps).run P w = .ok (.tuple #[tmps.getD t undef, tmps.getD u undef, tmps.getD v undef, tmps.getD x undef, tmps.getD y undef]) w := by
  simp [results, h]
theorem put_low {xs : List Int} {n : Int} (hx : ∀ y ∈ xs, 0 ≤ y) (hn : 0 ≤ n) (i j : Nat) : ∀ y ∈ xs.take i ++ n :: xs.drop j, 0 ≤ y := by
  intro y hy
  simp only [List.mem_append, List.mem_cons] at hy
  rcases hy with h | rfl | h
  · exact hx y (List.mem_of_mem_take h)
  · exact hn
  · exact hx y (List.mem_of_mem_drop h)
theorem put_low0 {xs : List Int} {n : Int} (hx : ∀ y ∈ xs, 0 ≤ y) (hn : 0 ≤ n) : ∀ y ∈ xs ++ [n], 0 ≤ y := by
  intro y hy
  simp only [List.mem_append, List.mem_singleton] at hy
  rcases hy with h | rfl
  · exact hx y h
  · exact hn
/-- A list of at most so many numbers and one more. -/
def PutR (w : World) (v : Value) (n B : Nat) : Prop := ∃ ys, Rd w v ys ∧ (ys.length ≤ n + 1 ∧ ∀ y ∈ ys, 0 ≤ y) ∧ ∀ b, v.ownBlock = some b → B ≤ b
theorem rd_far {w w' : World} {v : Value} {xs : List Int} {g : Nat} (h : Rd w v xs) (hg : w.grownBy w' (some g)) (hv : ∀ b, v.ownBlock = some b → b ≠ g) : Rd w' v xs := by
  obtain ⟨a, cap, rfl, h1, h2, h3⟩ := h
  refine ⟨a, cap, rfl, h1, h2, ?_⟩
  rcases h3 with h3 | ⟨b, off, rfl, hlt, hc⟩
  · exact .inl h3
  · refine .inr ⟨b, off, rfl, Nat.lt_of_lt_of_le hlt hg.size, fun i hi => ?_⟩
    rw [← hc i hi]
    unfold World.cell?
    rw [hg.block b hlt (fun e => hv b rfl (by simpa using e))]
set_option maxRecDepth 100000 in
set_option maxHeartbeats 3200000 in
theorem l1Put_calls (v : Value) (xs : List Int) (n : Int) (w : World) (h : Rd w v xs) (hl : xs.length ≤ 64) (hn : 0 ≤ n) (hx : ∀ y ∈ xs, 0 ≤ y) (B : Nat) (hB : B ≤ w.heap.size) (hvB : ∀ b, v.ownBlock = some b → B ≤ b) :
    Calls Tryd.prog 148 #[v, .int .i64 n] w fun e w' => ∃ v' : Value, e = .returned v' ∧ PutR w' v' xs.length B ∧ Below w.heap.size w w' := by
  have R := hide h
  have VB := hide hvB
  have XN := hide hx
  have NN := hide hn
  clear hvB hx hn
  obtain ⟨a, cap, rfl, hcap, hcm, _⟩ := h
  go_enter Tryd.func148, Tryd.ntmps148
  go_wp2
  go_loop [5] (fun vk => ∃ k : Nat, k ≤ xs.length ∧ vk = .int .i64 k) (fun vk => xs.length - (intOf vk).toNat)
  case atStart => exact ⟨0, Nat.zero_le _, rfl⟩
  case round =>
    obtain ⟨k, hk, rfl⟩ := hrel
    by_cases hlt : k < xs.length
    · have hlt' : (k : Int) < (xs.length : Int) := by omega
      obtain ⟨b, off, u, rfl, hc, hu⟩ := R.out.row k hlt
      obtain ⟨x, hx⟩ : ∃ x, x = xs.getD k 0 := ⟨_, rfl⟩
      rw [← hx] at hu
      subst hu
      clear hx
      by_cases hxn : x < n
      · go_wp2
        go_round
        case rel => exact ⟨k + 1, by omega, by go_num⟩
        case measure => simp [intOf]; omega
      · by_cases hxe : x = n
        · have te : (x == n) = true := by simp [hxe]
          have HX := hide hxe
          clear hxe
          go_wp2
          go_ret
          exact ⟨_, rfl, ⟨xs, R.out, ⟨by omega, XN.out⟩, VB.out⟩, Below.refl _ _⟩
        · have te : (x == n) = false := by simp [hxe]
          have RT := hide (rd_take2 R.out k hk)
          have RD := hide (rd_drop2 R.out k hlt)
          have i1 : (k : Int) ≤ (cap : Int) := by omega
          have i2 : ¬ cap = k := by omega
          have i3 : (k : Int) ≤ (xs.length : Int) := by omega
          clear hxe
          go_wp2_with (at_builtin; refine wpList_append_rd rfl (.tmp 34) (.tmp 37) rfl w.heap.size _ 0 [] (xs.take k) rfl (World.ownsRow_nil _ _ _ _) _ rfl RT.out (by rw [List.length_take]; omega) (Nat.le_refl _) ?_)
          intro v1 w1 ho1 hg1
          have b1 : Below w.heap.size w w1 := (Below.refl _ _).grown hg1 (Nat.le_refl _) (fun j hj => by cases hj)
          have ho1 : Own w1 w.heap.size v1 (xs.take k) := ho1
          have B1 := hide b1
          have l1 : (xs.take k).length = k := by rw [List.length_take]; omega
          have O1 := hide (ho1.alloc (.cells #[.int .i64 n] 3))
          have low1 : Hid (∀ j, v1.ownBlock = some j → w.heap.size ≤ j) := fun j hj => (ho1.lt j hj).1
          have L1 := hide l1
          clear ho1 hg1 b1 l1
          go_wp2_with (at_builtin; refine wpList_append_rd rfl (.tmp 39) (.tmp 41) rfl w.heap.size _ (xs.take k).length (xs.take k) [n] rfl O1.out _ rfl rd_single (by rw [L1.out]; simp; omega) (by have := B1.out.size; simp; omega) ?_)
          intro v2 w2 ho2 hg2
          have b2 : Below w.heap.size w w2 := (B1.out.alloc B1.out.size _).grown hg2 (by have := B1.out.size; simp; omega) low1.out
          have B2 := hide b2
          have O2 := hide ho2
          have low2 : Hid (∀ j, v2.ownBlock = some j → w.heap.size ≤ j) := fun j hj => (ho2.lt j hj).1
          have RD2 := hide (RD.out.below b2)
          have L2 : Hid ((xs.take k ++ [n]).length = k + 1) := by show (xs.take k ++ [n]).length = k + 1; rw [List.length_append, L1.out]; rfl
          clear ho2 hg2 b2
          go_wp2_with (at_builtin; refine wpList_append_rd rfl (.tmp 43) (.tmp 46) rfl w.heap.size _ (xs.take k ++ [n]).length (xs.take k ++ [n]) (xs.drop k) rfl O2.out _ rfl RD2.out (by rw [L2.out, List.length_drop]; omega) (by have := B2.out.size; omega) ?_)
          intro v3 w3 ho3 hg3
          have B3 : Hid (Below w.heap.size w w3) := B2.out.grown hg3 B2.out.size low2.out
          have R3 : Hid (PutR w3 v3 xs.length B) := ⟨_, ho3.rd, ⟨by simp only [List.length_append, List.length_cons, List.length_drop, List.length_take]; omega, put_low XN.out NN.out _ _⟩, fun j hj => Nat.le_trans hB (ho3.lt j hj).1⟩
          clear ho3 hg3
          go_wp2
          go_ret
          exact ⟨_, rfl, R3.out, B3.out⟩
    · obtain rfl : k = xs.length := by omega
      have i1 : (xs.length : Int) ≤ (cap : Int) := by omega
      have RT : Hid (Rd w (.slice a xs.length cap) xs) := R.out
      by_cases hce : cap = xs.length
      · obtain rfl : cap = xs.length := hce
        go_wp2_with (at_builtin; refine wpList_append_rd rfl (.tmp 34) (.tmp 37) rfl w.heap.size _ 0 [] xs rfl (World.ownsRow_nil _ _ _ _) _ rfl RT.out (by omega) (Nat.le_refl _) ?_)
        intro v1 w1 ho1 hg1
        have b1 : Below w.heap.size w w1 := (Below.refl _ _).grown hg1 (Nat.le_refl _) (fun j hj => by cases hj)
        have ho1 : Own w1 w.heap.size v1 xs := ho1
        have B1 := hide b1
        have O1 := hide (ho1.alloc (.cells #[.int .i64 n] 3))
        have low1 : Hid (∀ j, v1.ownBlock = some j → w.heap.size ≤ j) := fun j hj => (ho1.lt j hj).1
        clear ho1 hg1 b1
        go_wp2_with (at_builtin; refine wpList_append_rd rfl (.tmp 39) (.tmp 41) rfl w.heap.size _ xs.length xs [n] rfl O1.out _ rfl rd_single (by simp; omega) (by have := B1.out.size; simp; omega) ?_)
        intro v2 w2 ho2 hg2
        have b2 : Below w.heap.size w w2 := (B1.out.alloc B1.out.size _).grown hg2 (by have := B1.out.size; simp; omega) low1.out
        have B2 := hide b2
        have O2 := hide ho2
        have low2 : Hid (∀ j, v2.ownBlock = some j → w.heap.size ≤ j) := fun j hj => (ho2.lt j hj).1
        have L2 : Hid ((xs ++ [n]).length = xs.length + 1) := by show (xs ++ [n]).length = xs.length + 1; simp
        clear ho2 hg2 b2
        go_wp2_with (at_builtin; refine wpList_append_rd rfl (.tmp 43) (.tmp 46) rfl w.heap.size _ (xs ++ [n]).length (xs ++ [n]) [] rfl O2.out _ rfl ⟨_, _, rfl, Nat.zero_le _, ⟨by omega, by intro h; first | rfl | omega | (cases h)⟩, .inl rfl⟩ (by rw [L2.out]; simp; omega) (by have := B2.out.size; omega) ?_)
        intro v3 w3 ho3 hg3
        have B3 : Hid (Below w.heap.size w w3) := B2.out.grown hg3 B2.out.size low2.out
        have R3 : Hid (PutR w3 v3 xs.length B) := ⟨_, ho3.rd, ⟨by simp, put_low0 XN.out NN.out⟩, fun j hj => Nat.le_trans hB (ho3.lt j hj).1⟩
        clear ho3 hg3
        go_wp2
        go_ret
        exact ⟨_, rfl, R3.out, B3.out⟩
      · have ce : ¬ cap = xs.length := hce
        obtain ⟨ad, rfl⟩ : ∃ ad, a = some ad := by
          cases a with
          | none => exact absurd (by have := hcm.2 rfl; omega) ce
          | some ad => exact ⟨ad, rfl⟩
        go_wp2_with (at_builtin; refine wpList_append_rd rfl (.tmp 34) (.tmp 37) rfl w.heap.size _ 0 [] xs rfl (World.ownsRow_nil _ _ _ _) _ rfl RT.out (by omega) (Nat.le_refl _) ?_)
        intro v1 w1 ho1 hg1
        have b1 : Below w.heap.size w w1 := (Below.refl _ _).grown hg1 (Nat.le_refl _) (fun j hj => by cases hj)
        have ho1 : Own w1 w.heap.size v1 xs := ho1
        have B1 := hide b1
        have O1 := hide (ho1.alloc (.cells #[.int .i64 n] 3))
        have low1 : Hid (∀ j, v1.ownBlock = some j → w.heap.size ≤ j) := fun j hj => (ho1.lt j hj).1
        clear ho1 hg1 b1
        go_wp2_with (at_builtin; refine wpList_append_rd rfl (.tmp 39) (.tmp 41) rfl w.heap.size _ xs.length xs [n] rfl O1.out _ rfl rd_single (by simp; omega) (by have := B1.out.size; simp; omega) ?_)
        intro v2 w2 ho2 hg2
        have b2 : Below w.heap.size w w2 := (B1.out.alloc B1.out.size _).grown hg2 (by have := B1.out.size; simp; omega) low1.out
        have B2 := hide b2
        have O2 := hide ho2
        have low2 : Hid (∀ j, v2.ownBlock = some j → w.heap.size ≤ j) := fun j hj => (ho2.lt j hj).1
        have L2 : Hid ((xs ++ [n]).length = xs.length + 1) := by show (xs ++ [n]).length = xs.length + 1; simp
        clear ho2 hg2 b2
        go_wp2_with (at_builtin; refine wpList_append_rd rfl (.tmp 43) (.tmp 46) rfl w.heap.size _ (xs ++ [n]).length (xs ++ [n]) [] rfl O2.out _ rfl ⟨_, _, rfl, Nat.zero_le _, ⟨by omega, by intro h; first | rfl | omega | (cases h)⟩, .inl rfl⟩ (by rw [L2.out]; simp; omega) (by have := B2.out.size; omega) ?_)
        intro v3 w3 ho3 hg3
        have B3 : Hid (Below w.heap.size w w3) := B2.out.grown hg3 B2.out.size low2.out
        have R3 : Hid (PutR w3 v3 xs.length B) := ⟨_, ho3.rd, ⟨by simp, put_low0 XN.out NN.out⟩, fun j hj => Nat.le_trans hB (ho3.lt j hj).1⟩
        clear ho3 hg3
        go_wp2
        go_ret
        exact ⟨_, rfl, R3.out, B3.out⟩
end Go.Proofs.YtogopakmebiomaaDoor
