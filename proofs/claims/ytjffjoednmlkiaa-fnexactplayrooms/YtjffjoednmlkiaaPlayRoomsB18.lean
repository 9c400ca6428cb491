/-
  Whether rooms are good, of the model. Each contract says what it asks.
-/
import Derived.Test.YtjffjoednmlkiaaPlayRoomsB17
namespace Go.Proofs.Ytjffjoednmlkiaa
open Go.RowKit Go.Maps Go.MapKept Go.ChangeMaps
set_option linter.unusedVariables false

set_option maxRecDepth 100000 in
set_option maxHeartbeats 3200000 in
theorem l14Cover_calls (a o n : Nat) (v : Value) (xs : List Int) (base : Nat) (w : World) (h : Own w base v xs) (hl : xs.length = 32) (ho : o ≤ 5) (hn : n = 2 ^ o) (hb : a + n ≤ 32) (hv : ∀ p, 0 ≤ xs.getD p 0 ∧ xs.getD p 0 ≤ 1099511627776) :
    Calls Try.prog 111 #[v, .int .i64 (a : Int), .int .i64 (o : Int)] w fun e w' => e = .returned (.tuple #[]) ∧ Own w' base v (adN a n xs) ∧ w.grownBy w' v.ownBlock := by
  obtain ⟨g, cap, rfl⟩ : ∃ g cap, v = .slice (some ⟨g, 0, none⟩) 32 cap := by
    rcases h.2 with ⟨_, h0⟩ | ⟨g, cap, cur, rfl, _⟩
    · omega
    · exact ⟨g, cap, by rw [hl]⟩
  have H := hide h
  have HL := hide hl
  have HV := hide hv
  have key : (o = 0 ∧ n = 1) ∨ (o = 1 ∧ n = 2) ∨ (o = 2 ∧ n = 4) ∨ (o = 3 ∧ n = 8) ∨ (o = 4 ∧ n = 16) ∨ (o = 5 ∧ n = 32) := by
    have : o = 0 ∨ o = 1 ∨ o = 2 ∨ o = 3 ∨ o = 4 ∨ o = 5 := by omega
    rcases this with rfl | rfl | rfl | rfl | rfl | rfl <;> simp at hn <;> omega
  clear h hl hv hn ho
  rcases key with ⟨rfl, rfl⟩ | ⟨rfl, rfl⟩ | ⟨rfl, rfl⟩ | ⟨rfl, rfl⟩ | ⟨rfl, rfl⟩ | ⟨rfl, rfl⟩
  · go_enter Try.func111, Try.ntmps111
    go_wp2
    go_loopw [6] (fun vi wr => ∃ k : Nat, k ≤ 1 ∧ vi = .int .i64 ((a + k : Nat) : Int) ∧ Own wr base (.slice (some ⟨g, 0, none⟩) 32 cap) (adN a k xs) ∧ w.grownBy wr (some g)) (fun vi _ => a + 1 - (intOf vi).toNat)
    case atStart => exact ⟨0, Nat.zero_le _, rfl, H.out, World.grownBy.refl _ _⟩
    case round =>
      obtain ⟨k, hk, rfl, hx, hg⟩ := hrel
      have Y := hide hx
      have G := hide hg
      clear hx hg
      by_cases hlt : k < 1
      · have ln : (adN a k xs).length = 32 := by rw [adN_len]; exact HL.out
        obtain ⟨g', cap', ev, c0, f0, put⟩ := own_put Y.out (n := a + k) (by omega)
        simp only [Value.slice.injEq, Option.some.injEq, Addr.mk.injEq, and_true] at ev
        obtain ⟨e1, e2, e3⟩ := ev
        subst e1
        have gv := adN_get a k xs (by rw [HL.out]; omega) (a + k)
        rw [if_neg (by omega)] at gv
        have hvv := HV.out (a + k)
        obtain ⟨y, hy⟩ : ∃ y, y = (adN a k xs).getD (a + k) 0 := ⟨_, rfl⟩
        have y0 : 0 ≤ y ∧ y ≤ 1099511627776 := by rw [hy, gv]; omega
        obtain ⟨y1, y2⟩ := y0
        have PT := put (y + 1)
        have Y2 : Hid (Own (w := wr.setCell ⟨g, a + k, none⟩ (.int .i64 (y + 1))) base (.slice (some ⟨g, 0, none⟩) 32 cap) (adN a (k + 1) xs)) := by
          have := PT.1
          rw [hy] at this ⊢
          exact this
        have G2 := hide (grown_tr G.out PT.2)
        rw [← hy] at c0
        obtain ⟨q, hq⟩ : ∃ q, q = a + k := ⟨_, rfl⟩
        rw [← hq] at c0 f0 Y2 G2 ⊢
        have Q := hide hq
        have q31 : (q : Int) < 32 := by omega
        have qlt : (q : Int) < (a : Int) + 1 := by omega
        clear gv hvv hy ln Y G put PT e2 e3 hq
        go_wp2
        go_roundw
        case rel => exact ⟨k + 1, by omega, by have := Q.out; go_num, Y2.out, G2.out⟩
        case measure => have := Q.out; simp [intOf]; omega
      · obtain rfl : k = 1 := by omega
        go_wp2
        go_end0
        exact ⟨rfl, Y.out, G.out⟩
  · go_enter Try.func111, Try.ntmps111
    go_wp2
    go_loopw [6] (fun vi wr => ∃ k : Nat, k ≤ 2 ∧ vi = .int .i64 ((a + k : Nat) : Int) ∧ Own wr base (.slice (some ⟨g, 0, none⟩) 32 cap) (adN a k xs) ∧ w.grownBy wr (some g)) (fun vi _ => a + 2 - (intOf vi).toNat)
    case atStart => exact ⟨0, Nat.zero_le _, rfl, H.out, World.grownBy.refl _ _⟩
    case round =>
      obtain ⟨k, hk, rfl, hx, hg⟩ := hrel
      have Y := hide hx
      have G := hide hg
      clear hx hg
      by_cases hlt : k < 2
      · have ln : (adN a k xs).length = 32 := by rw [adN_len]; exact HL.out
        obtain ⟨g', cap', ev, c0, f0, put⟩ := own_put Y.out (n := a + k) (by omega)
        simp only [Value.slice.injEq, Option.some.injEq, Addr.mk.injEq, and_true] at ev
        obtain ⟨e1, e2, e3⟩ := ev
        subst e1
        have gv := adN_get a k xs (by rw [HL.out]; omega) (a + k)
        rw [if_neg (by omega)] at gv
        have hvv := HV.out (a + k)
        obtain ⟨y, hy⟩ : ∃ y, y = (adN a k xs).getD (a + k) 0 := ⟨_, rfl⟩
        have y0 : 0 ≤ y ∧ y ≤ 1099511627776 := by rw [hy, gv]; omega
        obtain ⟨y1, y2⟩ := y0
        have PT := put (y + 1)
        have Y2 : Hid (Own (w := wr.setCell ⟨g, a + k, none⟩ (.int .i64 (y + 1))) base (.slice (some ⟨g, 0, none⟩) 32 cap) (adN a (k + 1) xs)) := by
          have := PT.1
          rw [hy] at this ⊢
          exact this
        have G2 := hide (grown_tr G.out PT.2)
        rw [← hy] at c0
        obtain ⟨q, hq⟩ : ∃ q, q = a + k := ⟨_, rfl⟩
        rw [← hq] at c0 f0 Y2 G2 ⊢
        have Q := hide hq
        have q31 : (q : Int) < 32 := by omega
        have qlt : (q : Int) < (a : Int) + 2 := by omega
        clear gv hvv hy ln Y G put PT e2 e3 hq
        go_wp2
        go_roundw
        case rel => exact ⟨k + 1, by omega, by have := Q.out; go_num, Y2.out, G2.out⟩
        case measure => have := Q.out; simp [intOf]; omega
      · obtain rfl : k = 2 := by omega
        go_wp2
        go_end0
        exact ⟨rfl, Y.out, G.out⟩
  · go_enter Try.func111, Try.ntmps111
    go_wp2
    go_loopw [6] (fun vi wr => ∃ k : Nat, k ≤ 4 ∧ vi = .int .i64 ((a + k : Nat) : Int) ∧ Own wr base (.slice (some ⟨g, 0, none⟩) 32 cap) (adN a k xs) ∧ w.grownBy wr (some g)) (fun vi _ => a + 4 - (intOf vi).toNat)
    case atStart => exact ⟨0, Nat.zero_le _, rfl, H.out, World.grownBy.refl _ _⟩
    case round =>
      obtain ⟨k, hk, rfl, hx, hg⟩ := hrel
      have Y := hide hx
      have G := hide hg
      clear hx hg
      by_cases hlt : k < 4
      · have ln : (adN a k xs).length = 32 := by rw [adN_len]; exact HL.out
        obtain ⟨g', cap', ev, c0, f0, put⟩ := own_put Y.out (n := a + k) (by omega)
        simp only [Value.slice.injEq, Option.some.injEq, Addr.mk.injEq, and_true] at ev
        obtain ⟨e1, e2, e3⟩ := ev
        subst e1
        have gv := adN_get a k xs (by rw [HL.out]; omega) (a + k)
        rw [if_neg (by omega)] at gv
        have hvv := HV.out (a + k)
        obtain ⟨y, hy⟩ : ∃ y, y = (adN a k xs).getD (a + k) 0 := ⟨_, rfl⟩
        have y0 : 0 ≤ y ∧ y ≤ 1099511627776 := by rw [hy, gv]; omega
        obtain ⟨y1, y2⟩ := y0
        have PT := put (y + 1)
        have Y2 : Hid (Own (w := wr.setCell ⟨g, a + k, none⟩ (.int .i64 (y + 1))) base (.slice (some ⟨g, 0, none⟩) 32 cap) (adN a (k + 1) xs)) := by
          have := PT.1
          rw [hy] at this ⊢
          exact this
        have G2 := hide (grown_tr G.out PT.2)
        rw [← hy] at c0
        obtain ⟨q, hq⟩ : ∃ q, q = a + k := ⟨_, rfl⟩
        rw [← hq] at c0 f0 Y2 G2 ⊢
        have Q := hide hq
        have q31 : (q : Int) < 32 := by omega
        have qlt : (q : Int) < (a : Int) + 4 := by omega
        clear gv hvv hy ln Y G put PT e2 e3 hq
        go_wp2
        go_roundw
        case rel => exact ⟨k + 1, by omega, by have := Q.out; go_num, Y2.out, G2.out⟩
        case measure => have := Q.out; simp [intOf]; omega
      · obtain rfl : k = 4 := by omega
        go_wp2
        go_end0
        exact ⟨rfl, Y.out, G.out⟩
  · go_enter Try.func111, Try.ntmps111
    go_wp2
    go_loopw [6] (fun vi wr => ∃ k : Nat, k ≤ 8 ∧ vi = .int .i64 ((a + k : Nat) : Int) ∧ Own wr base (.slice (some ⟨g, 0, none⟩) 32 cap) (adN a k xs) ∧ w.grownBy wr (some g)) (fun vi _ => a + 8 - (intOf vi).toNat)
    case atStart => exact ⟨0, Nat.zero_le _, rfl, H.out, World.grownBy.refl _ _⟩
    case round =>
      obtain ⟨k, hk, rfl, hx, hg⟩ := hrel
      have Y := hide hx
      have G := hide hg
      clear hx hg
      by_cases hlt : k < 8
      · have ln : (adN a k xs).length = 32 := by rw [adN_len]; exact HL.out
        obtain ⟨g', cap', ev, c0, f0, put⟩ := own_put Y.out (n := a + k) (by omega)
        simp only [Value.slice.injEq, Option.some.injEq, Addr.mk.injEq, and_true] at ev
        obtain ⟨e1, e2, e3⟩ := ev
        subst e1
        have gv := adN_get a k xs (by rw [HL.out]; omega) (a + k)
        rw [if_neg (by omega)] at gv
        have hvv := HV.out (a + k)
        obtain ⟨y, hy⟩ : ∃ y, y = (adN a k xs).getD (a + k) 0 := ⟨_, rfl⟩
        have y0 : 0 ≤ y ∧ y ≤ 1099511627776 := by rw [hy, gv]; omega
        obtain ⟨y1, y2⟩ := y0
        have PT := put (y + 1)
        have Y2 : Hid (Own (w := wr.setCell ⟨g, a + k, none⟩ (.int .i64 (y + 1))) base (.slice (some ⟨g, 0, none⟩) 32 cap) (adN a (k + 1) xs)) := by
          have := PT.1
          rw [hy] at this ⊢
          exact this
        have G2 := hide (grown_tr G.out PT.2)
        rw [← hy] at c0
        obtain ⟨q, hq⟩ : ∃ q, q = a + k := ⟨_, rfl⟩
        rw [← hq] at c0 f0 Y2 G2 ⊢
        have Q := hide hq
        have q31 : (q : Int) < 32 := by omega
        have qlt : (q : Int) < (a : Int) + 8 := by omega
        clear gv hvv hy ln Y G put PT e2 e3 hq
        go_wp2
        go_roundw
        case rel => exact ⟨k + 1, by omega, by have := Q.out; go_num, Y2.out, G2.out⟩
        case measure => have := Q.out; simp [intOf]; omega
      · obtain rfl : k = 8 := by omega
        go_wp2
        go_end0
        exact ⟨rfl, Y.out, G.out⟩
  · go_enter Try.func111, Try.ntmps111
    go_wp2
    go_loopw [6] (fun vi wr => ∃ k : Nat, k ≤ 16 ∧ vi = .int .i64 ((a + k : Nat) : Int) ∧ Own wr base (.slice (some ⟨g, 0, none⟩) 32 cap) (adN a k xs) ∧ w.grownBy wr (some g)) (fun vi _ => a + 16 - (intOf vi).toNat)
    case atStart => exact ⟨0, Nat.zero_le _, rfl, H.out, World.grownBy.refl _ _⟩
    case round =>
      obtain ⟨k, hk, rfl, hx, hg⟩ := hrel
      have Y := hide hx
      have G := hide hg
      clear hx hg
      by_cases hlt : k < 16
      · have ln : (adN a k xs).length = 32 := by rw [adN_len]; exact HL.out
        obtain ⟨g', cap', ev, c0, f0, put⟩ := own_put Y.out (n := a + k) (by omega)
        simp only [Value.slice.injEq, Option.some.injEq, Addr.mk.injEq, and_true] at ev
        obtain ⟨e1, e2, e3⟩ := ev
        subst e1
        have gv := adN_get a k xs (by rw [HL.out]; omega) (a + k)
        rw [if_neg (by omega)] at gv
        have hvv := HV.out (a + k)
        obtain ⟨y, hy⟩ : ∃ y, y = (adN a k xs).getD (a + k) 0 := ⟨_, rfl⟩
        have y0 : 0 ≤ y ∧ y ≤ 1099511627776 := by rw [hy, gv]; omega
        obtain ⟨y1, y2⟩ := y0
        have PT := put (y + 1)
        have Y2 : Hid (Own (w := wr.setCell ⟨g, a + k, none⟩ (.int .i64 (y + 1))) base (.slice (some ⟨g, 0, none⟩) 32 cap) (adN a (k + 1) xs)) := by
          have := PT.1
          rw [hy] at this ⊢
          exact this
        have G2 := hide (grown_tr G.out PT.2)
        rw [← hy] at c0
        obtain ⟨q, hq⟩ : ∃ q, q = a + k := ⟨_, rfl⟩
        rw [← hq] at c0 f0 Y2 G2 ⊢
        have Q := hide hq
        have q31 : (q : Int) < 32 := by omega
        have qlt : (q : Int) < (a : Int) + 16 := by omega
        clear gv hvv hy ln Y G put PT e2 e3 hq
        go_wp2
        go_roundw
        case rel => exact ⟨k + 1, by omega, by have := Q.out; go_num, Y2.out, G2.out⟩
        case measure => have := Q.out; simp [intOf]; omega
      · obtain rfl : k = 16 := by omega
        go_wp2
        go_end0
        exact ⟨rfl, Y.out, G.out⟩
  · go_enter Try.func111, Try.ntmps111
    go_wp2
    go_loopw [6] (fun vi wr => ∃ k : Nat, k ≤ 32 ∧ vi = .int .i64 ((a + k : Nat) : Int) ∧ Own wr base (.slice (some ⟨g, 0, none⟩) 32 cap) (adN a k xs) ∧ w.grownBy wr (some g)) (fun vi _ => a + 32 - (intOf vi).toNat)
    case atStart => exact ⟨0, Nat.zero_le _, rfl, H.out, World.grownBy.refl _ _⟩
    case round =>
      obtain ⟨k, hk, rfl, hx, hg⟩ := hrel
      have Y := hide hx
      have G := hide hg
      clear hx hg
      by_cases hlt : k < 32
      · have ln : (adN a k xs).length = 32 := by rw [adN_len]; exact HL.out
        obtain ⟨g', cap', ev, c0, f0, put⟩ := own_put Y.out (n := a + k) (by omega)
        simp only [Value.slice.injEq, Option.some.injEq, Addr.mk.injEq, and_true] at ev
        obtain ⟨e1, e2, e3⟩ := ev
        subst e1
        have gv := adN_get a k xs (by rw [HL.out]; omega) (a + k)
        rw [if_neg (by omega)] at gv
        have hvv := HV.out (a + k)
        obtain ⟨y, hy⟩ : ∃ y, y = (adN a k xs).getD (a + k) 0 := ⟨_, rfl⟩
        have y0 : 0 ≤ y ∧ y ≤ 1099511627776 := by rw [hy, gv]; omega
        obtain ⟨y1, y2⟩ := y0
        have PT := put (y + 1)
        have Y2 : Hid (Own (w := wr.setCell ⟨g, a + k, none⟩ (.int .i64 (y + 1))) base (.slice (some ⟨g, 0, none⟩) 32 cap) (adN a (k + 1) xs)) := by
          have := PT.1
          rw [hy] at this ⊢
          exact this
        have G2 := hide (grown_tr G.out PT.2)
        rw [← hy] at c0
        obtain ⟨q, hq⟩ : ∃ q, q = a + k := ⟨_, rfl⟩
        rw [← hq] at c0 f0 Y2 G2 ⊢
        have Q := hide hq
        have q31 : (q : Int) < 32 := by omega
        have qlt : (q : Int) < (a : Int) + 32 := by omega
        clear gv hvv hy ln Y G put PT e2 e3 hq
        go_wp2
        go_roundw
        case rel => exact ⟨k + 1, by omega, by have := Q.out; go_num, Y2.out, G2.out⟩
        case measure => have := Q.out; simp [intOf]; omega
      · obtain rfl : k = 32 := by omega
        go_wp2
        go_end0
        exact ⟨rfl, Y.out, G.out⟩

set_option maxRecDepth 100000 in
set_option maxHeartbeats 800000 in
theorem l1HasR_calls (v : Value) (xs : List Int) (x : Int) (w : World) (h : Rd w v xs) :
    Calls Try.prog 110 #[v, .int .i64 x] w fun e w' => e = .returned (.bool (decide (x ∈ xs))) ∧ w = w' := by
  have R := hide h
  obtain ⟨a, cap, rfl, q1, q2, q3⟩ := h
  have hm : xs.length ≤ maxLen := by omega
  unfold maxLen at hm
  clear q1 q2 q3
  obtain ⟨z, hz⟩ : ∃ z, z = decide (x ∈ xs) := ⟨_, rfl⟩
  rw [← hz]
  have Z := hide hz
  clear hz
  go_enter Try.func110, Try.ntmps110
  go_wp2
  go_loop [9] (fun vi => ∃ k : Nat, k ≤ xs.length ∧ vi = .int .i64 k ∧ ∀ i, i < k → xs.getD i 0 ≠ x) (fun vi => xs.length - (intOf vi).toNat)
  case atStart => exact ⟨0, Nat.zero_le _, rfl, fun i hi => by omega⟩
  case round =>
    obtain ⟨k, hk, rfl, hall⟩ := hrel
    have A := hide hall
    clear hall
    by_cases hlt : k < xs.length
    · have hlt' : (k : Int) < (xs.length : Int) := by omega
      obtain ⟨b, off, rfl, hc⟩ := R.out.cellAt k hlt
      obtain ⟨y, hy⟩ : ∃ y, y = xs.getD k 0 := ⟨_, rfl⟩
      rw [← hy] at hc
      have Y := hide hy
      clear hy
      by_cases e : y = x
      · have te : (y == x) = true := by simpa using e
        have M : Hid (z = true) := by
          show z = true
          rw [Z.out]
          refine decide_eq_true ?_
          rw [← e, Y.out]
          exact getD_memR xs k 0 hlt
        clear e
        go_wp2
        go_ret
        rw [M.out]
        exact ⟨rfl, rfl⟩
      · have te : (y == x) = false := by simpa using e
        have E := hide e
        clear e
        go_wp2
        go_round
        case rel =>
          refine ⟨k + 1, by omega, by go_num, fun i hi => ?_⟩
          by_cases e : i = k
          · subst e; rw [← Y.out]; exact E.out
          · exact A.out i (by omega)
        case measure => simp [intOf]; omega
    · obtain rfl : k = xs.length := by omega
      have M : Hid (z = false) := by
        show z = false
        rw [Z.out]
        refine decide_eq_false (fun h => ?_)
        obtain ⟨i, hi, he⟩ := List.getElem_of_mem h
        exact A.out i hi (by rw [List.getD_eq_getElem?_getD, List.getElem?_eq_getElem hi, Option.getD_some]; exact he)
      go_wp2
      go_ret
      rw [M.out]
      exact ⟨rfl, rfl⟩

theorem quiet_sameR {P : Program} {f : FuncId} {args : Array Value} {w : World} {n : Nat} {v : Value}
    (h : Calls P f args (w.drewN n) fun e w' => e = .returned v ∧ w.drewN n = w') : Calls P f args (w.drewN n) fun e w'' => e = .returned v ∧ ∃ m, w'' = w.drewN m :=
  h.mono fun _ _ ⟨he, hm⟩ => ⟨he, n, hm.symm⟩
theorem wrap_pw (o : Nat) (h : o ≤ 5) : wrap64 ((2 : Int) ^ o) = pw o := by
  have : o = 0 ∨ o = 1 ∨ o = 2 ∨ o = 3 ∨ o = 4 ∨ o = 5 := by omega
  rcases this with rfl | rfl | rfl | rfl | rfl | rfl <;> decide +kernel
theorem xor_pw (x : Int) (o : Nat) (h0 : 0 ≤ x) (h1 : x < 32) (ho : o < 5) : bits .xor .i64 x (wrap64 ((2 : Int) ^ o)) = bud x o := by
  rw [wrap_pw o (by omega)]
  exact xor_bud x o h0 h1 ho
set_option maxRecDepth 100000 in
set_option maxHeartbeats 6400000 in
theorem sGoodRooms_calls (f h : Value) (m : List (List Int)) (hs : List Hl) (y : Bool) (w : World) (hf : RdM w f m) (hh : RdH w h hs) (hz : m.length + tot m ≤ 1048576) (hz2 : hs.length ≤ 1048576) (hy : y = true ↔ RoomsOk m hs) :
    Calls Try.prog 52 #[.agg #[f, h]] w fun e w' => e = .returned (.bool y) ∧ Below w.heap.size w w' := by
  obtain ⟨af, cf, rfl, q1, q2⟩ := hf.sl
  obtain ⟨ah, ch, rfl, q3, q4⟩ := hh.sl
  have hmm : m.length ≤ 1048576 := by omega
  have RF := hide hf
  have RH := hide hh
  have HZ : Hid (tot m ≤ 1048576) := by show _ ≤ _; omega
  have HY := hide hy
  have A0 := hide ((Hand.start w).box #[.slice af m.length cf, .slice ah hs.length ch] 29)
  clear hf hh hz hy q1 q2 q3 q4
  go_enter Try.func52, Try.ntmps52
  go_wp2_with (at_make; refine wpList_make_ints rfl _ _ rfl w.heap.size _ _ 32 rfl rfl (by omega) (by omega) (by omega) (by simp) ?_)
  intro w0 hm0 hg0
  have g0 : (w.alloc (.cells #[.slice af m.length cf, .slice ah hs.length ch] 29)).heap.size = w.heap.size + 1 := World.size_alloc _ _
  try rw [g0] at hm0
  have O0 : Hid (Own w0 w.heap.size (.slice (some ⟨w.heap.size + 1, 0, none⟩) 32 32) (cntR [])) := by show Own _ _ _ _; rw [cntR_nil]; exact hm0
  have X0 : Hid (BoxAt w0 w.heap.size #[.slice af m.length cf, .slice ah hs.length ch] 29) := (A0.out.atBox 0 rfl).kept hg0 (by simp)
  have B0 : Hid (Below w.heap.size w w0) := A0.out.below.grown hg0 A0.out.below.size (fun k h => by cases h)
  have x0 := X0.out.c2.1
  clear hm0 hg0 A0 g0
  obtain ⟨g0, hg0⟩ : ∃ g, g = w.heap.size := ⟨_, rfl⟩
  have HG0 := hide hg0
  obtain ⟨cs, hcs⟩ : ∃ cs : Array Value, cs = #[.slice af m.length cf, .slice ah hs.length ch] := ⟨_, rfl⟩
  have HCS := hide hcs
  rw [← hcs] at X0
  rw [← hg0] at X0 x0 O0 ⊢
  clear hg0 hcs
  go_wp2_with fail
  clear x0
  go_loopw [16] (fun v wr => ∃ k : Nat, k ≤ m.length ∧ v = .int .i64 (k : Int) ∧ (∀ o, o < k → rowP o (m.getD o [])) ∧ Own wr g0 (.slice (some ⟨g0 + 1, 0, none⟩) 32 32) (cntR (allR 0 (m.take k))) ∧ BoxAt wr g0 cs 29 ∧ Below w.heap.size w wr) (fun v _ => m.length - (intOf v).toNat)
  case atStart => exact ⟨0, Nat.zero_le _, rfl, fun o ho => by omega, O0.out, X0.out, B0.out⟩
  case round =>
    obtain ⟨k, hk, rfl, hall, ho1, hx1, hb⟩ := hrel
    have AL := hide hall
    have O1 := hide ho1
    have X1 := hide hx1
    have B1 := hide hb
    clear hall ho1 hx1 hb X0 O0 B0
    by_cases hlt : k < m.length
    · have hlt' : (k : Int) < (m.length : Int) := by omega
      have k20 : (k : Int) ≤ 1048576 := by omega
      obtain ⟨bb, off, u, rfl, hc', hu⟩ := RF.out.row k hlt
      have hc := cell_below hc' B1.out
      obtain ⟨ua, uc, rfl, u1, u2⟩ := hu.slc
      have RU := hide hu
      have AS := hide (allR_succ m k hlt)
      have LL : (allR 0 (m.take k)).length + (m.getD k []).length ≤ tot m := by rw [allR_len]; exact tot_row_le m k hlt
      obtain ⟨r, hr⟩ : ∃ r, r = m.getD k [] := ⟨_, rfl⟩
      have HR := hide hr
      rw [← hr] at RU AS hc LL
      have rl : r.length ≤ 1048576 := by have := HZ.out; omega
      obtain ⟨A, hA⟩ : ∃ A, A = allR 0 (m.take k) := ⟨_, rfl⟩
      rw [← hA] at AS LL O1
      obtain ⟨LA, hLA⟩ : ∃ n, n = A.length := ⟨_, rfl⟩
      rw [← hLA] at LL
      have HLA := hide hLA
      have LL2 : LA + r.length ≤ 1048576 := by have := HZ.out; omega
      have NR : Hid (¬ rowP k r → y = false) := fun h => bFR HY.out (fun hh => h (by rw [HR.out]; exact hh.rows k hlt))
      clear hu hr u1 u2 hc' hA hLA LL
      go_wp2_with fail
      go_loopw [23] (fun v wx => ∃ i : Nat, i ≤ r.length ∧ v = .int .i64 (i : Int) ∧ (∀ j, j < i → rmP (r.getD j 0) (k : Int) ∧ (j = 0 ∨ r.getD (j - 1) 0 < r.getD j 0) ∧ (k ≠ 5 → ¬ bud (r.getD j 0) k ∈ r)) ∧ Own wx g0 (.slice (some ⟨g0 + 1, 0, none⟩) 32 32) (cntR (A ++ (r.map (fun x => (x, (k : Int)))).take i)) ∧ BoxAt wx g0 cs 29 ∧ Below w.heap.size w wx) (fun v _ => r.length - (intOf v).toNat)
      case atStart => exact ⟨0, Nat.zero_le _, rfl, fun j hj => by omega, by rw [List.take_zero, List.append_nil]; exact O1.out, X1.out, B1.out⟩
      case round =>
        obtain ⟨i, hi, rfl, hel, ho1, hx1, hb⟩ := hrel
        have EL := hide hel
        have O2 := hide ho1
        have X2 := hide hx1
        have B2 := hide hb
        clear hel ho1 hx1 hb O1 X1
        by_cases hli : i < r.length
        · have hli' : (i : Int) < (r.length : Int) := by omega
          have RU2 : Hid (Rd wr (.slice ua r.length uc) r) := RU.out.below B2.out
          obtain ⟨b2, o2, rfl, d0⟩ := RU2.out.cellAt i hli
          obtain ⟨x, hx⟩ : ∃ x, x = r.getD i 0 := ⟨_, rfl⟩
          have HX := hide hx
          rw [← hx] at d0
          have RM := hide (l14Room_calls x (k : Int) wr)
          clear hx
          by_cases hrm : rmP x (k : Int)
          case neg =>
            have E : Hid (rmB x (k : Int) = false) := decide_eq_false hrm
            obtain rfl : y = false := NR.out (fun h => hrm (by have := (h i hli).1; rw [← HX.out] at this; exact this))
            clear hrm
            go_wp2_with fail
            refine RM.out.mono ?_
            rw [E.out]
            rintro e w3 ⟨rfl, rfl⟩
            go_wp2
            go_ret
            exact ⟨rfl, B2.out⟩
          have E : Hid (rmB x (k : Int) = true) := decide_eq_true hrm
          obtain ⟨an, on, e1, e2, e3, e4, e5, e6⟩ := rm_fit hrm
          obtain rfl : on = k := by omega
          have RMP := hide hrm
          have xlo : 0 ≤ x := hrm.2.2.1
          have xhi : x < 32 := hrm.2.2.2.1
          have E1 := hide e1
          have E3 := hide e3
          have E4 := hide e4
          clear hrm e1 e2 e3 e4 e5 e6
          have TK : (r.map (fun x => (x, (on : Int)))).take (i + 1) = (r.map (fun x => (x, (on : Int)))).take i ++ [((an : Int), (on : Int))] := by
            rw [take_succ_getD (r.map (fun x => (x, (on : Int)))) i hl0 (by simpa using hli), map_getD (fun x => (x, (on : Int))) r i 0 hl0 hli, ← HX.out, E1.out]
          have SN := cntR_snoc (A ++ (r.map (fun x => (x, (on : Int)))).take i) an on E4.out
          rw [List.append_assoc, ← TK] at SN
          have CV := hide (l14Cover_calls an on (2 ^ on) _ _ g0 wr O2.out (cntR_len _) E3.out rfl E4.out (fun p => by
            have h1 := cntR_le (A ++ (r.map (fun x => (x, (on : Int)))).take i) p
            have h2 : (A ++ (r.map (fun x => (x, (on : Int)))).take i).length ≤ 1048576 := by
              rw [List.length_append, ← HLA.out]
              simp
              omega
            omega))
          rw [SN, ← E1.out] at CV
          clear TK SN
          by_cases hpv : i = 0 ∨ r.getD (i - 1) 0 < x
          case neg =>
            obtain ⟨hi0, hpx⟩ : i ≠ 0 ∧ ¬ r.getD (i - 1) 0 < x := ⟨fun h => hpv (.inl h), fun h => hpv (.inr h)⟩
            obtain rfl : y = false := NR.out (fun h => hpv (by have := (h i hli).2.1; rw [← HX.out] at this; exact this))
            obtain ⟨b3, o3, eb, d1⟩ := RU2.out.cellAt (i - 1) (by omega)
            simp only [Option.some.injEq, Addr.mk.injEq, and_true] at eb
            obtain ⟨rfl, rfl⟩ := eb
            obtain ⟨z, hz⟩ : ∃ z, z = r.getD (i - 1) 0 := ⟨_, rfl⟩
            rw [← hz] at d1 hpx
            have hzx : x ≤ z := by omega
            have i0 : (0 : Int) < (i : Int) := by omega
            obtain ⟨i', rfl⟩ : ∃ i', i = i' + 1 := ⟨i - 1, by omega⟩
            rw [Nat.add_sub_cancel] at d1
            clear hpv hi0 hpx hz CV
            go_wp2_with fail
            refine RM.out.mono ?_
            rw [E.out]
            rintro e w3 ⟨rfl, rfl⟩
            go_wp2
            go_ret
            exact ⟨rfl, B2.out⟩
          have NE : Hid ((on ≠ 5 → ¬ bud x on ∈ r) → ∀ j, j < i + 1 → rmP (r.getD j 0) (on : Int) ∧ (j = 0 ∨ r.getD (j - 1) 0 < r.getD j 0) ∧ (on ≠ 5 → ¬ bud (r.getD j 0) on ∈ r)) := by
            intro h j hj
            by_cases e : j = i
            · subst e
              rw [← HX.out]
              exact ⟨RMP.out, hpv, h⟩
            · exact EL.out j (by omega)
          by_cases hi0 : i = 0
          · have i0 : ¬ (0 : Int) < (i : Int) := by omega
            clear hpv hi0
            go_wp2_with fail
            refine RM.out.mono ?_
            rw [E.out]
            rintro e w3 ⟨rfl, rfl⟩
            by_cases h5 : on = 5
            · have OKB : Hid (on ≠ 5 → ¬ bud x on ∈ r) := fun h => absurd h5 h
              have k5 : ¬ (on : Int) < 5 := by omega
              clear h5
              go_wp2_with fail
              refine CV.out.mono ?_
              rintro e w5 ⟨rfl, o5, g5⟩
              have O5 := hide o5
              have X5 := hide (X2.out.kept g5 (by simp [Value.ownBlock]))
              have B5 := hide (B2.out.grown g5 B2.out.size (fun j hj => by have := HG0.out; simp only [Value.ownBlock, Option.some.injEq] at hj; omega))
              clear o5 g5 X2 O2 CV
              go_wp2
              go_roundw
              case rel => exact ⟨i + 1, by omega, by go_num, NE.out OKB.out, O5.out, X5.out, B5.out⟩
              case measure => simp [intOf]; omega
            · have XB := xor_pw x on xlo xhi (by have := E3.out; omega)
              have k5 : (on : Int) < 5 := by have := E3.out; omega
              have HS := hide (l1HasR_calls _ r (bud x on) wr RU2.out)
              by_cases hb : bud x on ∈ r
              · obtain rfl : y = false := NR.out (fun h => (h i hli).2.2 h5 (by rw [← HX.out]; exact hb))
                rw [decide_eq_true hb] at HS
                have XB2 := hide XB
                clear hb h5 XB
                go_wp2_with fail
                rw [XB2.out]
                refine HS.out.mono ?_
                rintro e w4 ⟨rfl, rfl⟩
                go_wp2
                go_ret
                exact ⟨rfl, B2.out⟩
              · have OKB : Hid (on ≠ 5 → ¬ bud x on ∈ r) := fun _ => hb
                rw [decide_eq_false hb] at HS
                have XB2 := hide XB
                clear hb h5 XB
                go_wp2_with fail
                rw [XB2.out]
                refine HS.out.mono ?_
                rintro e w4 ⟨rfl, rfl⟩
                go_wp2_with fail
                refine CV.out.mono ?_
                rintro e w5 ⟨rfl, o5, g5⟩
                have O5 := hide o5
                have X5 := hide (X2.out.kept g5 (by simp [Value.ownBlock]))
                have B5 := hide (B2.out.grown g5 B2.out.size (fun j hj => by have := HG0.out; simp only [Value.ownBlock, Option.some.injEq] at hj; omega))
                clear o5 g5 X2 O2 CV
                go_wp2
                go_roundw
                case rel => exact ⟨i + 1, by omega, by go_num, NE.out OKB.out, O5.out, X5.out, B5.out⟩
                case measure => simp [intOf]; omega
          · have hpx := hpv.resolve_left hi0
            obtain ⟨b3, o3, eb, d1⟩ := RU2.out.cellAt (i - 1) (by omega)
            simp only [Option.some.injEq, Addr.mk.injEq, and_true] at eb
            obtain ⟨rfl, rfl⟩ := eb
            obtain ⟨z, hz⟩ : ∃ z, z = r.getD (i - 1) 0 := ⟨_, rfl⟩
            rw [← hz] at d1 hpx
            have hzx : ¬ x ≤ z := by omega
            have i0 : (0 : Int) < (i : Int) := by omega
            obtain ⟨i', rfl⟩ : ∃ i', i = i' + 1 := ⟨i - 1, by omega⟩
            rw [Nat.add_sub_cancel] at d1
            clear hpv hi0 hpx hz
            go_wp2_with fail
            refine RM.out.mono ?_
            rw [E.out]
            rintro e w3 ⟨rfl, rfl⟩
            by_cases h5 : on = 5
            · have OKB : Hid (on ≠ 5 → ¬ bud x on ∈ r) := fun h => absurd h5 h
              have k5 : ¬ (on : Int) < 5 := by omega
              clear h5
              go_wp2_with fail
              refine CV.out.mono ?_
              rintro e w5 ⟨rfl, o5, g5⟩
              have O5 := hide o5
              have X5 := hide (X2.out.kept g5 (by simp [Value.ownBlock]))
              have B5 := hide (B2.out.grown g5 B2.out.size (fun j hj => by have := HG0.out; simp only [Value.ownBlock, Option.some.injEq] at hj; omega))
              clear o5 g5 X2 O2 CV
              go_wp2
              go_roundw
              case rel => exact ⟨(i' + 1) + 1, by omega, by go_num, NE.out OKB.out, O5.out, X5.out, B5.out⟩
              case measure => simp [intOf]; omega
            · have XB := xor_pw x on xlo xhi (by have := E3.out; omega)
              have k5 : (on : Int) < 5 := by have := E3.out; omega
              have HS := hide (l1HasR_calls _ r (bud x on) wr RU2.out)
              by_cases hb : bud x on ∈ r
              · obtain rfl : y = false := NR.out (fun h => (h (i' + 1) hli).2.2 h5 (by rw [← HX.out]; exact hb))
                rw [decide_eq_true hb] at HS
                have XB2 := hide XB
                clear hb h5 XB
                go_wp2_with fail
                rw [XB2.out]
                refine HS.out.mono ?_
                rintro e w4 ⟨rfl, rfl⟩
                go_wp2
                go_ret
                exact ⟨rfl, B2.out⟩
              · have OKB : Hid (on ≠ 5 → ¬ bud x on ∈ r) := fun _ => hb
                rw [decide_eq_false hb] at HS
                have XB2 := hide XB
                clear hb h5 XB
                go_wp2_with fail
                rw [XB2.out]
                refine HS.out.mono ?_
                rintro e w4 ⟨rfl, rfl⟩
                go_wp2_with fail
                refine CV.out.mono ?_
                rintro e w5 ⟨rfl, o5, g5⟩
                have O5 := hide o5
                have X5 := hide (X2.out.kept g5 (by simp [Value.ownBlock]))
                have B5 := hide (B2.out.grown g5 B2.out.size (fun j hj => by have := HG0.out; simp only [Value.ownBlock, Option.some.injEq] at hj; omega))
                clear o5 g5 X2 O2 CV
                go_wp2
                go_roundw
                case rel => exact ⟨(i' + 1) + 1, by omega, by go_num, NE.out OKB.out, O5.out, X5.out, B5.out⟩
                case measure => simp [intOf]; omega
        · obtain rfl : i = r.length := by omega
          have O3 : Hid (Own wr g0 (.slice (some ⟨g0 + 1, 0, none⟩) 32 32) (cntR (allR 0 (m.take (k + 1))))) := by
            show Own _ _ _ _
            have := O2.out
            have e2 : (r.map (fun x => (x, (k : Int)))).take r.length = r.map (fun x => (x, (k : Int))) := List.take_of_length_le (by simp)
            rw [e2, ← AS.out] at this
            exact this
          clear O2
          go_wp2
          go_roundw
          case rel =>
            refine ⟨k + 1, by omega, by go_num, fun o ho => ?_, O3.out, X2.out, B2.out⟩
            by_cases e : o = k
            · subst e; rw [← HR.out]; exact EL.out
            · exact AL.out o (by omega)
          case measure => simp [intOf]; omega
    · obtain rfl : k = m.length := by omega
      rw [List.take_length] at O1
      have xx := X1.out
      rw [HCS.out] at xx
      have x2 := xx.c2.2
      have LA : (allR 0 m).length = tot m := allR_len m 0
      obtain ⟨A, hA⟩ : ∃ A, A = allR 0 m := ⟨_, rfl⟩
      rw [← hA] at O1 LA
      have HA := hide hA
      have HLA := hide LA
      have LL2 : tot m + hs.length ≤ 2097152 := by have := HZ.out; omega
      obtain ⟨tm, htm⟩ : ∃ n, n = tot m := ⟨_, rfl⟩
      rw [← htm] at LL2 HLA
      clear xx hk hA LA htm
      go_wp2_with fail
      clear x2
      have NR : Hid (¬ heldP hs → y = false) := fun h => bFR HY.out (fun hh => h hh.held)
      go_loopw [67] (fun v wx => ∃ i : Nat, i ≤ hs.length ∧ v = .int .i64 (i : Int) ∧ (∀ j, j < i → rmP (hs.getD j hl0).1 (hs.getD j hl0).2 ∧ (j = 0 ∨ (hs.getD (j - 1) hl0).1 < (hs.getD j hl0).1)) ∧ Own wx g0 (.slice (some ⟨g0 + 1, 0, none⟩) 32 32) (cntR (A ++ hs.take i)) ∧ BoxAt wx g0 cs 29 ∧ Below w.heap.size w wx) (fun v _ => hs.length - (intOf v).toNat)
      case atStart => exact ⟨0, Nat.zero_le _, rfl, fun j hj => by omega, by rw [List.take_zero, List.append_nil]; exact O1.out, X1.out, B1.out⟩
      case round =>
        obtain ⟨i, hi, rfl, hel, ho1, hx1, hb⟩ := hrel
        have EL := hide hel
        have O2 := hide ho1
        have X2 := hide hx1
        have B2 := hide hb
        clear hel ho1 hx1 hb O1 X1
        by_cases hli : i < hs.length
        · have hli' : (i : Int) < (hs.length : Int) := by omega
          have RH2 : Hid (RdH wr (.slice ah hs.length ch) hs) := RH.out.below B2.out
          obtain ⟨b2, o2, x, z, rfl, hx, _, d0, d1⟩ := RH2.out.at i hli
          have HX := hide hx
          have bx := below_box wr (.cells #[.int .i64 x, .int .i64 z] 136)
          have X3 := BoxAt.new wr #[.int .i64 x, .int .i64 z] 136
          have z0 := X3.c2.1
          have z1 := X3.c2.2
          obtain ⟨W3, hW3⟩ : ∃ W, W = wr.alloc (.cells #[.int .i64 x, .int .i64 z] 136) := ⟨_, rfl⟩
          have HW3 := hide hW3
          rw [← hW3] at bx
          have O3 : Hid (∀ n, Own (W3.drewN n) g0 (.slice (some ⟨g0 + 1, 0, none⟩) 32 32) (cntR (A ++ hs.take i))) := fun n => (O2.out.below bx).below (below_drewN' n)
          have X4 : Hid (∀ n, BoxAt (W3.drewN n) g0 cs 29) := fun n => (X2.out.below bx).below (below_drewN' n)
          have B3 : Hid (∀ n, Below w.heap.size w (W3.drewN n)) := fun n => below_drewN (B2.out.trans (bx.mono B2.out.size)) n
          have x4 := X2.out.below bx
          rw [HCS.out] at x4
          have x5 := x4.c2.2
          rw [← hW3] at z0 z1
          have RM := hide (fun V => l14Room_calls x z V)
          have RH3 : Hid (RdH W3 (.slice (some ⟨b2, o2, none⟩) hs.length ch) hs) := RH2.out.below bx
          clear hx x4 bx X3 O2 X2 hW3
          by_cases hrm : rmP x z
          case neg =>
            have E : Hid (rmB x z = false) := decide_eq_false hrm
            obtain rfl : y = false := NR.out (fun h => hrm (by have := (h i hli).1; rw [HX.out] at this; exact this))
            clear hrm
            rw [E.out] at RM
            go_wp2_with fail
            rw [← HW3.out]
            clear HW3
            go_quiet ((go_at_call 109; exact quiet_sameR (RM.out _)))
            go_wp2
            go_ret
            exact ⟨rfl, B3.out _⟩
          have E : Hid (rmB x z = true) := decide_eq_true hrm
          obtain ⟨an, on, e1, e2, e3, e4, e5, e6⟩ := rm_fit hrm
          have RMP := hide hrm
          have E1 := hide e1
          have E2 := hide e2
          have E3 := hide e3
          have E4 := hide e4
          clear hrm e1 e2 e3 e4 e5 e6
          have TK : hs.take (i + 1) = hs.take i ++ [((an : Int), (on : Int))] := by
            rw [take_succ_getD hs i hl0 hli, HX.out, E1.out, E2.out]
          have SN := cntR_snoc (A ++ hs.take i) an on E4.out
          rw [List.append_assoc, ← TK] at SN
          have CV := hide (fun n => l14Cover_calls an on (2 ^ on) _ _ g0 _ (O3.out n) (cntR_len _) E3.out rfl E4.out (fun p => by
            have h1 := cntR_le (A ++ hs.take i) p
            have h2 : (A ++ hs.take i).length ≤ 2097152 := by
              rw [List.length_append, HLA.out]
              simp
              omega
            omega))
          rw [SN, ← E1.out, ← E2.out] at CV
          clear TK SN
          by_cases hpv : i = 0 ∨ (hs.getD (i - 1) hl0).1 < x
          case neg =>
            obtain ⟨hi0, hpx⟩ : i ≠ 0 ∧ ¬ (hs.getD (i - 1) hl0).1 < x := ⟨fun h => hpv (.inl h), fun h => hpv (.inr h)⟩
            obtain rfl : y = false := NR.out (fun h => hpv (by have := (h i hli).2; rw [HX.out] at this; exact this))
            obtain ⟨b3, o3, u, u', eb, hu, _, f0, f1⟩ := RH3.out.at (i - 1) (by omega)
            simp only [Option.some.injEq, Addr.mk.injEq, and_true] at eb
            obtain ⟨rfl, rfl⟩ := eb
            rw [hu] at hpx
            have hzx : x ≤ u := by simp only at hpx; omega
            have hzd := decide_eq_true hzx
            have i0 : (0 : Int) < (i : Int) := by omega
            have i0d := decide_eq_true i0
            obtain ⟨i', rfl⟩ : ∃ i', i = i' + 1 := ⟨i - 1, by omega⟩
            rw [Nat.add_sub_cancel] at f0 f1
            have i1 : (i' : Int) < (hs.length : Int) := by omega
            clear hpv hi0 hpx hu CV
            rw [E.out] at RM
            go_wp2_with fail
            rw [← HW3.out]
            clear HW3
            go_quiet ((go_at_call 109; exact quiet_sameR (RM.out _)))
            go_wp2
            go_ret
            exact ⟨rfl, B3.out _⟩
          have NE : Hid (∀ j, j < i + 1 → rmP (hs.getD j hl0).1 (hs.getD j hl0).2 ∧ (j = 0 ∨ (hs.getD (j - 1) hl0).1 < (hs.getD j hl0).1)) := by
            intro j hj
            by_cases e : j = i
            · subst e
              rw [HX.out]
              exact ⟨RMP.out, hpv⟩
            · exact EL.out j (by omega)
          by_cases hi0 : i = 0
          · have i0 : ¬ (0 : Int) < (i : Int) := by omega
            have i0d := decide_eq_false i0
            have i0n : decide (0 < i) = false := decide_eq_false (by omega)
            clear hpv hi0
            rw [E.out] at RM
            go_wp2_with fail
            rw [← HW3.out]
            clear HW3
            go_quiet ((go_at_call 109; exact quiet_sameR (RM.out _)))
            go_wp2_with fail
            refine (CV.out _).mono ?_
            rintro e w5 ⟨rfl, o5, g5⟩
            have O5 := hide o5
            have X5 := hide ((X4.out _).kept g5 (by simp [Value.ownBlock]))
            have B5 := hide ((B3.out _).grown g5 (B3.out _).size (fun j hj => by have := HG0.out; simp only [Value.ownBlock, Option.some.injEq] at hj; omega))
            clear o5 g5 X4 O3 CV
            go_wp2
            go_roundw
            case rel => exact ⟨i + 1, by omega, by go_num, NE.out, O5.out, X5.out, B5.out⟩
            case measure => simp [intOf]; omega
          · have hpx := hpv.resolve_left hi0
            obtain ⟨b3, o3, u, u', eb, hu, _, f0, f1⟩ := RH3.out.at (i - 1) (by omega)
            simp only [Option.some.injEq, Addr.mk.injEq, and_true] at eb
            obtain ⟨rfl, rfl⟩ := eb
            rw [hu] at hpx
            have hzx : ¬ x ≤ u := by simp only at hpx; omega
            have hzd := decide_eq_false hzx
            have i0 : (0 : Int) < (i : Int) := by omega
            have i0d := decide_eq_true i0
            obtain ⟨i', rfl⟩ : ∃ i', i = i' + 1 := ⟨i - 1, by omega⟩
            rw [Nat.add_sub_cancel] at f0 f1
            have i1 : (i' : Int) < (hs.length : Int) := by omega
            clear hpv hi0 hpx hu
            rw [E.out] at RM
            go_wp2_with fail
            rw [← HW3.out]
            clear HW3
            go_quiet ((go_at_call 109; exact quiet_sameR (RM.out _)))
            go_wp2_with fail
            refine (CV.out _).mono ?_
            rintro e w5 ⟨rfl, o5, g5⟩
            have O5 := hide o5
            have X5 := hide ((X4.out _).kept g5 (by simp [Value.ownBlock]))
            have B5 := hide ((B3.out _).grown g5 (B3.out _).size (fun j hj => by have := HG0.out; simp only [Value.ownBlock, Option.some.injEq] at hj; omega))
            clear o5 g5 X4 O3 CV
            go_wp2
            go_roundw
            case rel => exact ⟨(i' + 1) + 1, by omega, by go_num, NE.out, O5.out, X5.out, B5.out⟩
            case measure => simp [intOf]; omega
        · obtain rfl : i = hs.length := by omega
          rw [List.take_length] at O2
          have HP : Hid (heldP hs) := EL.out
          have YC : Hid (cov1 (A ++ hs) → m.length = 6 → y = true) := fun h1 h2 => HY.out.2 ⟨h2, AL.out, HP.out, by rw [← HA.out]; exact h1⟩
          have NC : Hid (¬ cov1 (A ++ hs) → y = false) := fun h => bFR HY.out (fun hh => h (by rw [HA.out]; exact hh.cov))
          have N6 : Hid (m.length ≠ 6 → y = false) := fun h => bFR HY.out (fun hh => h hh.len)
          obtain ⟨C, hC⟩ : ∃ C, C = cntR (A ++ hs) := ⟨_, rfl⟩
          have CL : C.length = 32 := by rw [hC]; exact cntR_len _
          rw [← hC] at O2
          have HC := hide hC
          have RC := hide (Own.rd O2.out)
          have CL2 := hide CL
          clear hC CL
          go_wp2_with fail
          go_loopw [103] (fun v wx => ∃ j : Nat, j ≤ 32 ∧ v = .int .i64 (j : Int) ∧ (∀ q, q < j → C.getD q 0 = 1) ∧ BoxAt wx g0 cs 29 ∧ Rd wx (.slice (some ⟨g0 + 1, 0, none⟩) 32 32) C ∧ Below w.heap.size w wx) (fun v _ => 32 - (intOf v).toNat)
          case atStart => exact ⟨0, Nat.zero_le _, rfl, fun q hq => by omega, X2.out, RC.out, B2.out⟩
          case round =>
            obtain ⟨j, hj, rfl, hel, hx1, hr1, hb⟩ := hrel
            have EL2 := hide hel
            have X3 := hide hx1
            have R3 := hide hr1
            have B3 := hide hb
            clear hel hx1 hr1 hb X2 RC
            by_cases hlj : j < 32
            · have hlj' : (j : Int) < 32 := by omega
              obtain ⟨b4, o4, eb, d0⟩ := R3.out.cellAt j (by rw [CL2.out]; exact hlj)
              simp only [Option.some.injEq, Addr.mk.injEq, and_true] at eb
              obtain ⟨rfl, rfl⟩ := eb
              rw [Nat.zero_add] at d0
              obtain ⟨q, hq⟩ : ∃ q, q = C.getD j 0 := ⟨_, rfl⟩
              rw [← hq] at d0
              have HQ := hide hq
              clear hq
              by_cases h1 : q = 1
              · have t1 : (q != 1) = false := by simp [h1]
                have H1 := hide h1
                clear h1
                go_wp2
                go_roundw
                case rel =>
                  refine ⟨j + 1, by omega, by go_num, fun q' hq' => ?_, X3.out, R3.out, B3.out⟩
                  by_cases e : q' = j
                  · subst e; rw [← HQ.out]; exact H1.out
                  · exact EL2.out q' (by omega)
                case measure => simp [intOf]; omega
              · have t1 : (q != 1) = true := by simp [h1]
                obtain rfl : y = false := NC.out (fun hc => h1 (by
                  rw [HQ.out, HC.out, cntR_get _ _ hlj, hc j hlj]
                  rfl))
                clear h1
                go_wp2
                go_ret
                exact ⟨rfl, B3.out⟩
            · obtain rfl : j = 32 := by omega
              have xx := X3.out
              rw [HCS.out] at xx
              have x2 := xx.c2.1
              clear xx
              have CC : Hid (cov1 (A ++ hs)) := by
                intro p hp
                have := EL2.out p hp
                rw [HC.out, cntR_get _ _ hp] at this
                omega
              by_cases h6 : m.length = 6
              · obtain rfl : y = true := YC.out CC.out h6
                have e6 : ((m.length : Int) == 6) = true := by simp; omega
                clear h6
                go_wp2
                go_ret
                exact ⟨rfl, B3.out⟩
              · obtain rfl : y = false := N6.out h6
                have e6 : ((m.length : Int) == 6) = false := by simp; omega
                clear h6
                go_wp2
                go_ret
                exact ⟨rfl, B3.out⟩
end Go.Proofs.Ytjffjoednmlkiaa
