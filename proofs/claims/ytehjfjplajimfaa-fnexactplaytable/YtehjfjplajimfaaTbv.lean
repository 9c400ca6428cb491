/-
  The program's keys and GoodTable, call by call. Each contract says what it asks.
-/
import Derived.Test.YtehjfjplajimfaaTbu
namespace Go.Proofs.Ytehjfjplajimfaa
open Go.RowKit
set_option linter.unusedVariables false

theorem ret_boolK {a b : Bool} (h : a = b) : Ending.returned (.bool a) = Ending.returned (.bool b) := by rw [h]
/-- The number at place i is at least 0, below the end, and greater than the one ahead of it. -/
def risAtK (xs : List Int) (e : Int) (i : Nat) : Bool := decide (0 ≤ xs.getD i 0 ∧ xs.getD i 0 < e ∧ (i = 0 ∨ xs.getD (i - 1) 0 < xs.getD i 0))
def risesK (xs : List Int) (e : Int) : Bool := (List.range xs.length).all (risAtK xs e)
theorem rises_yesK {xs : List Int} {e : Int} (h : ∀ i, i < xs.length → risAtK xs e i = true) : risesK xs e = true := by
  rw [risesK, List.all_eq_true]
  intro i hi
  exact h i (List.mem_range.1 hi)
theorem rises_atK {xs : List Int} {e : Int} (h : risesK xs e = true) (i : Nat) (hi : i < xs.length) : risAtK xs e i = true := List.all_eq_true.1 h i (List.mem_range.2 hi)
theorem rises_noK {xs : List Int} {e : Int} {k : Nat} (hk : k < xs.length) (h : risAtK xs e k = false) : risesK xs e = false := by
  cases hh : risesK xs e with
  | false => rfl
  | true => rw [rises_atK hh k hk] at h; cases h

set_option maxRecDepth 100000 in
set_option maxHeartbeats 800000 in
theorem areRising_callsK (v : Value) (xs : List Int) (en : Int) (w : World) (h : Rd w v xs) (h0 : 0 ≤ en) (h1 : en ≤ 1048576) :
    Calls Try.prog 100 #[v, .int .i64 en] w fun e w' => e = .returned (.bool (risesK xs en)) ∧ w = w' := by
  have R := hide h
  obtain ⟨a, cap, rfl, q1, q2, q3⟩ := h
  have hm : xs.length ≤ maxLen := by omega
  unfold maxLen at hm
  clear q1 q2 q3
  go_enter Try.func100, Try.ntmps100
  go_wp2
  go_loop [5, 10] (fun vl vi => ∃ (k : Nat) (l : Int), k ≤ xs.length ∧ vi = .int .i64 k ∧ vl = .int .i64 l ∧ 0 ≤ l ∧ l ≤ 1048576 ∧ (k = 0 → l = 0) ∧ (0 < k → l = xs.getD (k - 1) 0 + 1) ∧ ∀ i, i < k → risAtK xs en i = true) (fun _ vi => xs.length - (intOf vi).toNat)
  case atStart => exact ⟨0, 0, Nat.zero_le _, rfl, rfl, by omega, by omega, fun _ => rfl, fun h => by omega, fun i hi => by omega⟩
  case round =>
    obtain ⟨k, l, hk, rfl, rfl, hl0, hl1, hz, hp, hall⟩ := hrel
    have A := hide hall
    have HZ := hide hz
    have HP := hide hp
    clear hall hz hp
    by_cases hlt : k < xs.length
    · have hlt' : (k : Int) < (xs.length : Int) := by omega
      obtain ⟨b, off, rfl, hc⟩ := R.out.cellAt k hlt
      obtain ⟨x, hx⟩ : ∃ x, x = xs.getD k 0 := ⟨_, rfl⟩
      rw [← hx] at hc
      have X := hide hx
      clear hx
      have key : risAtK xs en k = decide (l ≤ x ∧ x < en) := by
        unfold risAtK
        rw [← X.out]
        congr 1
        by_cases e : k = 0
        · have := HZ.out e
          subst this
          simp [e]
        · have := HP.out (by omega)
          have h' := A.out (k - 1) (by omega)
          unfold risAtK at h'
          simp only [decide_eq_true_eq] at h'
          apply propext
          constructor
          · rintro ⟨a1, a2, a3⟩
            exact ⟨by omega, a2⟩
          · rintro ⟨a1, a2⟩
            exact ⟨by omega, a2, .inr (by omega)⟩
      have KEY := hide key
      clear key
      by_cases c1 : l ≤ x
      · have c1' : ¬ x < l := by omega
        by_cases c2 : x < en
        · have c2' : ¬ en ≤ x := by omega
          go_wp2
          go_round
          case rel =>
            refine ⟨k + 1, x + 1, by omega, by go_num, by go_num, by omega, by omega, fun h => by omega, fun _ => by rw [X.out]; simp, fun i hi => ?_⟩
            by_cases e : i = k
            · subst e; rw [KEY.out]; exact decide_eq_true ⟨c1, c2⟩
            · exact A.out i (by omega)
          case measure => simp [intOf]; omega
        · have c2' : en ≤ x := by omega
          go_wp2
          go_ret
          exact ⟨ret_boolK (rises_noK hlt (by rw [KEY.out]; exact decide_eq_false (fun h => by omega))).symm, rfl⟩
      · have c1' : x < l := by omega
        go_wp2
        go_ret
        exact ⟨ret_boolK (rises_noK hlt (by rw [KEY.out]; exact decide_eq_false (fun h => by omega))).symm, rfl⟩
    · obtain rfl : k = xs.length := by omega
      go_wp2
      go_ret
      exact ⟨ret_boolK (rises_yesK A.out).symm, rfl⟩


theorem rises_iffK (xs : List Int) (e : Int) : risesK xs e = true ↔ ∀ i, i < xs.length → 0 ≤ xs.getD i 0 ∧ xs.getD i 0 < e ∧ (i = 0 ∨ xs.getD (i - 1) 0 < xs.getD i 0) := by
  constructor
  · intro h i hi
    have := rises_atK h i hi
    unfold risAtK at this
    exact of_decide_eq_true this
  · intro h
    exact rises_yesK fun i hi => decide_eq_true (h i hi)

theorem risesK_iff2 (xs : List Int) (e : Int) (h : ∀ x ∈ xs, 0 ≤ x ∧ x < e) : risesK xs e = true ↔ xs.Pairwise (· < ·) := by
  rw [rises_iffK]
  constructor
  · intro h1
    rw [List.pairwise_iff_getElem]
    intro i j hi hj hij
    have key : ∀ d i : Nat, i + d + 1 < xs.length → xs.getD i 0 < xs.getD (i + d + 1) 0 := by
      intro d
      induction d with
      | zero => intro i hi; have := (h1 (i + 1) hi).2.2; rcases this with h | h
                · omega
                · simpa using h
      | succ d ih =>
        intro i hi
        have h2 := ih i (by omega)
        have h3 := (h1 (i + (d + 1) + 1) hi).2.2
        rcases h3 with h3 | h3
        · omega
        · have e : i + (d + 1) + 1 - 1 = i + d + 1 := by omega
          rw [e] at h3
          omega
    have := key (j - i - 1) i (by omega)
    rw [show i + (j - i - 1) + 1 = j from by omega] at this
    rw [List.getD_eq_getElem?_getD, List.getD_eq_getElem?_getD, List.getElem?_eq_getElem hi, List.getElem?_eq_getElem hj, Option.getD_some, Option.getD_some] at this
    exact this
  · intro h1 i hi
    rw [List.pairwise_iff_getElem] at h1
    have e : xs.getD i 0 = xs[i] := by rw [List.getD_eq_getElem?_getD, List.getElem?_eq_getElem hi, Option.getD_some]
    obtain ⟨a1, a2⟩ := h xs[i] (List.getElem_mem hi)
    rw [e]
    refine ⟨a1, a2, ?_⟩
    by_cases h0 : i = 0
    · exact .inl h0
    · right
      have hi' : i - 1 < xs.length := by omega
      rw [List.getD_eq_getElem?_getD, List.getElem?_eq_getElem hi', Option.getD_some]
      exact h1 (i - 1) i hi' hi (by omega)

set_option maxRecDepth 100000 in
set_option maxHeartbeats 400000 in
theorem keyOf_calls (u : Bool) (k z : Int) (w : World) :
    Calls Try.prog 117 #[.agg #[.bool u, .int .i64 k, .int .i64 z]] w fun e w' => e = .returned (.int .i64 k) ∧ Below w.heap.size w w' := by
  have A0 := hide ((Hand.start w).box #[.bool u, .int .i64 k, .int .i64 z] 81)
  go_enter Try.func117, Try.ntmps117
  go_wp2
  go_ret
  exact ⟨rfl, A0.out.below⟩
theorem ky_at (ds : List Sl) (k : Nat) (u : Bool) (x z : Int) (h : ds.getD k sl0 = (u, x, z)) (hk : k < ds.length) : (ky ds).getD k 0 = x := by
  rw [List.getD_eq_getElem?_getD, List.getElem?_eq_getElem hk, Option.getD_some] at h
  rw [List.getD_eq_getElem?_getD, ky, List.getElem?_map, List.getElem?_eq_getElem hk, Option.map_some, Option.getD_some, h]

set_option maxRecDepth 100000 in
set_option maxHeartbeats 3200000 in
theorem eachKey_calls (v : Value) (ds : List Sl) (w : World) (h : RdS w v ds) (hn : ds.length ≤ 1048576) :
    Calls Try.prog 116 #[v, .func (.func 117) #[] #[]] w fun e w' => (∃ g, e = .returned (.slice (some ⟨g, 0, none⟩) ds.length ds.length) ∧ Own w' w.heap.size (.slice (some ⟨g, 0, none⟩) ds.length ds.length) (ky ds)) ∧ Below w.heap.size w w' := by
  obtain ⟨a, cap, rfl, h1, h2⟩ := h.sl
  have R := hide h
  clear h h1 h2
  have KL := hide (ky_len ds)
  go_enter Try.func116, Try.ntmps116
  go_wp2_with (at_make; refine wpList_make_ints rfl _ _ rfl w.heap.size _ _ ds.length rfl rfl (by omega) (by omega) (by omega) (Nat.le_refl _) ?_)
  intro w0 hown0 hgrow0
  have O0 : Hid (w0.ownsRow w.heap.size 3 1 (.slice (some ⟨w.heap.size, 0, none⟩) ds.length ds.length) ds.length ((cpTo (ky ds) 0).map (Value.int .i64))) := by
    have h1 := hown0
    unfold Own at h1
    rw [List.length_replicate] at h1
    rw [cpTo_zero, KL.out]
    exact h1
  have B0 := hide ((Below.refl w.heap.size w).grown hgrow0 (Nat.le_refl _) (fun k h => by cases h))
  clear hown0 hgrow0
  go_wp2
  go_loopw [13] (fun vi wr => ∃ k : Nat, k ≤ ds.length ∧ vi = .int .i64 k ∧ wr.ownsRow w.heap.size 3 1 (.slice (some ⟨w.heap.size, 0, none⟩) ds.length ds.length) ds.length ((cpTo (ky ds) k).map (Value.int .i64)) ∧ Below w.heap.size w wr) (fun vi _ => ds.length - (intOf vi).toNat)
  case atStart => exact ⟨0, Nat.zero_le _, rfl, O0.out, B0.out⟩
  case round =>
    obtain ⟨k, hk, rfl, ho, hb⟩ := hrel
    have O := hide ho
    have B := hide hb
    clear ho hb
    by_cases hlt : k < ds.length
    · obtain ⟨b, off, u, x, z, rfl, hx, _, c0, c1, c2⟩ := (R.out.below B.out).at k hlt
      have hlt' : (k : Int) < (ds.length : Int) := by omega
      have HX := hide (ky_at ds k u x z hx hlt)
      clear hx
      have bx := below_box wr (.cells #[.bool u, .int .i64 x, .int .i64 z] 81)
      have OX := hide (rowsBelow O.out bx)
      have BX := hide (B.out.trans (bx.mono B.out.size))
      clear bx
      go_wp2_with fail
      refine (keyOf_calls u x z _).mono ?_
      rintro e w2 ⟨rfl, b2⟩
      have O2 := hide (rowsBelow OX.out b2)
      have B2 := hide (BX.out.trans (b2.mono BX.out.size))
      clear b2
      have f0 : w2.frozen? ⟨w.heap.size, k, none⟩ = false := World.ownsRow.frozenAt O2.out k
      obtain ⟨old, c3⟩ : ∃ old, w2.cell? ⟨w.heap.size, k, none⟩ = some old := by
        rw [World.ownsRow.cellAt O2.out k (by omega)]
        have := cpTo_length (ky ds) k (by rw [KL.out]; exact hk)
        exact ⟨_, List.getElem?_eq_getElem (by simp [KL.out] at this ⊢; omega)⟩
      have hst := World.ownsRow.stored O2.out k (.int .i64 x)
      rw [← HX.out, ← List.map_set, cpTo_step (ky ds) k (by rw [KL.out]; exact hlt), HX.out] at hst
      have K := hide hst.1
      have BB := hide (B2.out.setCell (p := ⟨w.heap.size, k, none⟩) (Nat.le_refl _) (.int .i64 x))
      clear hst
      go_wp2
      exact ⟨⟨k + 1, by omega, by go_num, K.out, BB.out⟩, by simp [intOf]; omega⟩
    · obtain rfl : k = ds.length := by omega
      have OE := O.out
      rw [← KL.out, cpTo_end] at OE
      have OF : Hid (Own wr w.heap.size (.slice (some ⟨w.heap.size, 0, none⟩) ds.length ds.length) (ky ds)) := by
        show World.ownsRow _ _ _ _ _ _ _
        rw [← KL.out]
        exact OE
      clear OE
      go_wp2
      go_ret
      exact ⟨⟨_, rfl, OF.out⟩, B.out⟩
set_option maxRecDepth 100000 in
set_option maxHeartbeats 1600000 in
theorem keysOf_calls (s m : Int) (l r : Value) (ls rs : List Sl) (w : World) (hl : RdS w l ls) (hr : RdS w r rs) (hzl : ls.length ≤ 400) (hzr : rs.length ≤ 400) (hpl : plain ls) (hpr : plain rs) :
    Calls Try.prog 99 #[.agg #[.int .i64 s, l, r, .int .i64 m]] w fun e w' => (∃ g n ds, e = .returned (.slice (some ⟨g, 0, none⟩) n n) ∧ Own w' w.heap.size (.slice (some ⟨g, 0, none⟩) n n) (ky ds) ∧ n = ds.length ∧ ds.Perm (us ls ++ us rs) ∧ Rising ds) ∧ Below w.heap.size w w' := by
  obtain ⟨al, cl, rfl, _, _⟩ := hl.sl
  obtain ⟨ar, cr, rfl, _, _⟩ := hr.sl
  have A0 := hide ((Hand.start w).box #[.int .i64 s, .slice al ls.length cl, .slice ar rs.length cr, .int .i64 m] 28)
  have US := hide (fun W (h1 : RdS W _ ls) (h2 : RdS W _ rs) => usedSlots_calls s m (.slice al ls.length cl) (.slice ar rs.length cr) ls rs W h1 h2 hzl hzr hpl hpr)
  have RL := hide hl
  have RR := hide hr
  have ZZ : Hid ((us ls ++ us rs).length ≤ 1048576) := by
    show _ ≤ _
    have h1 := us_len ls
    have h2 := us_len rs
    rw [List.length_append]
    omega
  clear hl hr hpl hpr
  go_enter Try.func99, Try.ntmps99
  go_wp2_with fail
  refine (US.out _ (RL.out.below A0.out.below) (RR.out.below A0.out.below)).mono ?_
  rintro e w1 ⟨⟨g, n, cap, ds, rfl, o1, hp, hr⟩, b1⟩
  have A1 := hide (A0.out.step b1)
  have O1 := hide o1
  have HP := hide hp
  have HR := hide hr
  have DL : ds.length ≤ 1048576 := by rw [hp.length_eq]; exact ZZ.out
  clear o1 hp hr b1 A0
  go_wp2_with fail
  refine (eachKey_calls _ ds _ (OwnS.rd O1.out) DL).mono ?_
  rintro e w2 ⟨⟨g2, rfl, o2⟩, b2⟩
  have B2 := hide (A1.out.step b2).below
  have O2 := hide (Own.mono o2 A1.out.below.size)
  clear o2 b2 A1
  go_wp2
  go_ret
  exact ⟨⟨g2, _, ds, rfl, O2.out, rfl, HP.out, HR.out⟩, B2.out⟩
end Go.Proofs.Ytehjfjplajimfaa
