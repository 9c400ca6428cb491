/-
  What is come to: the program's ReachedIn, call by call. Each contract says what it asks.
-/
import Derived.Test.YtakhggnbhjoojaaRce
namespace Go.Proofs.Ytakhggnbhjoojaa
open Go.RowKit
set_option linter.unusedVariables false

theorem RdZ.cellAt {w : World} {a : Option Addr} {n cap : Nat} {xs : List Bool} (h : RdZ w (.slice a n cap) xs) (i : Nat) (hi : i < xs.length) : ∃ b off, a = some ⟨b, off, none⟩ ∧ w.cell? ⟨b, off + i, none⟩ = some (.bool (xs.getD i false)) := by
  obtain ⟨a', cap', e, h1, h2, h3⟩ := h
  simp only [Value.slice.injEq] at e
  obtain ⟨rfl, _, rfl⟩ := e
  rcases h3 with rfl | ⟨b, off, rfl, hlt, hc⟩
  · simp at hi
  · exact ⟨b, off, rfl, hc i hi⟩

set_option maxRecDepth 100000 in
set_option maxHeartbeats 1600000 in
theorem reachedIn_calls (p r c : Value) (m : List Nd) (rs cs : List Int) (ok : Bool) (w : World) (h : RdG w p r c m rs cs) (hok : ok = decide (goodG m rs cs)) :
    Calls Try.prog 31 #[.agg #[p, r, c]] w fun e w' => ∃ y, e = .returned (.tuple #[y, .bool ok]) ∧ Own w' w.heap.size y (gX ok (selF 0 (rchA m rs))) ∧ Below w.heap.size w w' := by
  have R := hide h
  have A0 := hide ((Hand.start w).box #[p, r, c] 27)
  clear h
  by_cases hg : goodG m rs cs
  case neg =>
    obtain rfl : ok = false := by rw [hok]; exact decide_eq_false hg
    have E : Hid (decide (goodG m rs cs) = false) := decide_eq_false hg
    clear hok hg
    obtain ⟨c0, c1, c2⟩ := (A0.out.atBox 0 rfl).c3
    go_enter Try.func31, Try.ntmps31
    go_wp2_with fail
    refine (goodGraph_calls _ _ _ m rs cs _ (R.out.below A0.out.below)).mono ?_
    rw [E.out]
    rintro e w1 ⟨rfl, b1⟩
    have A1 := hide (A0.out.step b1)
    clear b1
    go_wp2
    go_ret2
    exact ⟨_, rfl, World.ownsRow_nil _ _ _ _, A1.out.below⟩
  have E : Hid (decide (goodG m rs cs) = true) := decide_eq_true hg
  obtain rfl : ok = true := by rw [hok]; exact decide_eq_true hg
  have G := hide (good_rc hg)
  have hm14 : m.length ≤ 14 := hg.1.1.1
  clear hok hg
  obtain ⟨c0, c1, c2⟩ := (A0.out.atBox 0 rfl).c3
  go_enter Try.func31, Try.ntmps31
  go_wp2_with fail
  refine (goodGraph_calls _ _ _ m rs cs _ (R.out.below A0.out.below)).mono ?_
  rw [E.out]
  rintro e w1 ⟨rfl, b1⟩
  have A1 := hide (A0.out.step b1)
  clear b1 c0 c1 c2
  obtain ⟨w2, hw2⟩ : ∃ w2, w2 = w1.alloc (.cells #[] 3) := ⟨_, rfl⟩
  have W2 : Hid (w1.alloc (.cells #[] 3) = w2) := hw2.symm
  have b2 : Below w1.heap.size w1 w2 := by rw [hw2]; exact below_box _ _
  have o2 : Own w2 w1.heap.size (.slice (some ⟨w1.heap.size, 0, none⟩) 0 0) [] := by rw [hw2]; exact World.ownsRow_lit (base := w1.heap.size) (e := 3) (size := 1) w1 #[] 0 (Nat.le_refl _) (Nat.zero_le _) rfl
  have A2 := hide (A1.out.step b2)
  have O2 := hide o2
  clear hw2 b2 o2
  obtain ⟨c0, c1, c2⟩ := (A2.out.atBox 0 rfl).c3
  go_upto_region 4 with fail
  rw [W2.out]
  go_wp2_with fail
  refine (reachedFrom_calls _ _ m rs _ (R.out.below A2.out.below).1 (R.out.below A2.out.below).2.1 G.out).mono ?_
  rintro e w3 ⟨v3, rfl, z3, b3⟩
  have hzl := rchA_len m rs
  obtain ⟨bs, hbs⟩ : ∃ bs, bs = rchA m rs := ⟨_, rfl⟩
  rw [← hbs] at z3 hzl
  obtain ⟨za, zc, hv3⟩ := row_slice z3
  subst hv3
  have Z3 : Hid (OwnZ w3 w.heap.size (.slice za bs.length zc) bs) := by
    refine ⟨z3.1, ?_⟩
    rcases z3.2 with hn | ⟨g, cap, cur, e, hb', rest⟩
    · exact .inl hn
    · exact .inr ⟨g, cap, cur, e, Nat.le_trans A2.out.below.size hb', rest⟩
  have O3 := hide (Own.mono (Own.below O2.out b3) A1.out.below.size)
  have B3 := hide (A2.out.below.trans (b3.mono A2.out.below.size))
  have EB := hide hbs
  have HZL := hide hzl
  obtain ⟨N, hN⟩ : ∃ N, N = bs.length := ⟨_, rfl⟩
  have hN14 : N ≤ 14 := by omega
  have Z4 : Hid (OwnZ w3 w.heap.size (.slice za N zc) bs) := by rw [hN]; exact Z3.out
  rw [← hN]
  have HN := hide hN
  clear Z3 z3 b3 hbs hzl hN c0 c1 c2 A0 A1 A2 O2
  go_wp2
  go_loopw [4, 17] (fun vo vi wr => ∃ (k : Nat), k ≤ N ∧ vi = .int .i64 k ∧ Own wr w.heap.size vo (selF 0 (bs.take k)) ∧ OwnZ wr w.heap.size (.slice za N zc) bs ∧ Below w.heap.size w wr) (fun _ vi _ => N - (intOf vi).toNat)
  case atStart => exact ⟨0, Nat.zero_le _, rfl, by simpa [selF] using O3.out, Z4.out, B3.out⟩
  case round =>
    obtain ⟨k, hk, rfl, ho, hz, hb⟩ := hrel
    have O := hide ho
    have B := hide hb
    have Z := hide hz
    clear ho hb hz O3 Z4
    obtain ⟨va, vc, hvo⟩ := row_slice O.out
    obtain ⟨L, hL⟩ : ∃ L, L = (selF 0 (bs.take k)).length := ⟨_, rfl⟩
    have hsl : (selF 0 (bs.take k)).length ≤ 14 := by
      have h8 := selF_len (bs.take k) 0
      have h9 : (bs.take k).length ≤ k := by simp; omega
      omega
    have hL14 : L ≤ 14 := by omega
    have HSL := hide hsl
    clear hsl
    rw [← hL] at hvo
    subst hvo
    clear hL
    by_cases hlt : k < N
    · have hlt' : (k : Int) < (N : Int) := by omega
      obtain ⟨b, off, rfl, hc⟩ := (OwnZ.rd Z.out).cellAt k (by have := HN.out; omega)
      have NX := hide (selF_succ bs k (by have := HN.out; omega))
      obtain ⟨y, hy⟩ : ∃ y, y = bs.getD k false := ⟨_, rfl⟩
      rw [← hy] at hc NX
      clear hy
      cases y with
      | false =>
        go_wp2
        go_round
        case rel => exact ⟨k + 1, by omega, by go_num, by rw [NX.out]; simpa using O.out, Z.out, B.out⟩
        case measure => simp [intOf]; omega
      | true =>
        have lo3 : w.heap.size ≤ wr.heap.size := B.out.size
        obtain ⟨w5, hw5⟩ : ∃ w5, w5 = wr.alloc (.cells #[.int .i64 (k : Int)] 3) := ⟨_, rfl⟩
        have b5 : Below wr.heap.size wr w5 := by rw [hw5]; exact below_box _ _
        have RX : Hid (Rd w5 (.slice (some ⟨wr.heap.size, 0, none⟩) 1 1) [(k : Int)]) := by rw [hw5]; exact rd_singleR
        have W5 : Hid (wr.alloc (.cells #[.int .i64 (k : Int)] 3) = w5) := hw5.symm
        have O5 := hide (Own.below O.out b5)
        have Z5 := hide (ownsRow_below Z.out b5)
        have B5 := hide (B.out.trans (b5.mono B.out.size))
        have LO5 : Hid (w.heap.size ≤ w5.heap.size) := Nat.le_trans lo3 b5.size
        clear hw5 b5
        go_wp2_with (at_builtin; refine wpList_app_int rfl _ _ rfl w.heap.size (.slice va L vc) rfl (selF 0 (bs.take k)) (by rw [W5.out]; exact O5.out) (.slice (some ⟨wr.heap.size, 0, none⟩) 1 1) rfl [(k : Int)] (by rw [W5.out]; exact RX.out) (by have := HSL.out; simp only [List.length_singleton]; omega) (by rw [W5.out]; exact LO5.out) ?_)
        rw [W5.out]
        intro v6 w6 o6 g6 at6
        have O6 := hide o6
        have B6 : Hid (Below w.heap.size w w6) := B5.out.grown g6 B5.out.size (fun k hk => (World.ownsRow.lt O5.out k hk).1)
        have Z6 := hide (World.ownsRow.kept Z5.out g6 (types_apart Z5.out O5.out (by decide)))
        clear o6 g6 at6
        go_wp2
        go_round
        case rel => exact ⟨k + 1, by omega, by go_num, by rw [NX.out]; simpa using O6.out, Z6.out, B6.out⟩
        case measure => simp [intOf]; omega
    · obtain rfl : k = N := by omega
      have OO : Hid (Own wr w.heap.size (.slice va L vc) (selF 0 (rchA m rs))) := by
        have := O.out
        rw [HN.out, List.take_length] at this
        rw [← EB.out]
        exact this
      have BB := B
      clear O
      go_wp2
      go_ret2
      exact ⟨_, rfl, by rw [gX_true]; exact OO.out, BB.out⟩
end Go.Proofs.Ytakhggnbhjoojaa
