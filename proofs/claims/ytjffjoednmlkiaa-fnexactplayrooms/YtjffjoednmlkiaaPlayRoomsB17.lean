/-
  Whether rooms are good: how often each place is covered, of the program and of the model; and the mathematics of counting. Each contract says what it asks. Whether rooms are good, of the program, as a whole; how many places are free, the greatest free order. Each contract says what it asks.
-/
import Derived.Test.YtjffjoednmlkiaaPlayRoomsB16
import Derived.Deep.WholeRow
namespace Go.Proofs.Ytjffjoednmlkiaa
open Go.RowKit Go.Maps Go.MapKept Go.ChangeMaps
set_option linter.unusedVariables false

/-- One more at k places from a on. -/
def adN (a : Nat) : Nat → List Int → List Int
  | 0, xs => xs
  | k + 1, xs => (adN a k xs).set (a + k) ((adN a k xs).getD (a + k) 0 + 1)
theorem adN_len (a : Nat) : ∀ (k : Nat) (xs : List Int), (adN a k xs).length = xs.length
  | 0, xs => rfl
  | k + 1, xs => by rw [adN, List.length_set, adN_len a k xs]
theorem adN_get (a : Nat) : ∀ (k : Nat) (xs : List Int), a + k ≤ xs.length → ∀ p, (adN a k xs).getD p 0 = xs.getD p 0 + (if a ≤ p ∧ p < a + k then 1 else 0)
  | 0, xs, _, p => by
    rw [if_neg (by omega)]
    simp [adN]
  | k + 1, xs, h, p => by
    have ih := adN_get a k xs (by omega)
    rw [adN, getD_set _ _ _ _ _ (by rw [adN_len]; omega)]
    by_cases e : p = a + k
    · subst e
      rw [if_pos rfl, ih, if_neg (by omega), if_pos (by omega)]
      omega
    · rw [if_neg e, ih]
      by_cases h2 : a ≤ p ∧ p < a + k
      · rw [if_pos h2, if_pos (by omega)]
      · rw [if_neg h2, if_neg (by omega)]
/-- A place is in a room. -/
def cvr (p : Nat) (x : Hl) : Bool := decide (x.1 ≤ (p : Int) ∧ (p : Int) < x.1 + pw x.2.toNat)
/-- How many of these rooms each place is in. -/
def cntR (L : List Hl) : List Int := (List.range 32).map fun p => ((L.countP (cvr p) : Nat) : Int)
theorem cntR_len (L : List Hl) : (cntR L).length = 32 := by simp [cntR]
theorem cntR_get (L : List Hl) (p : Nat) (h : p < 32) : (cntR L).getD p 0 = ((L.countP (cvr p) : Nat) : Int) := by simp [cntR, List.getD_eq_getElem?_getD, h]
theorem cntR_nil : cntR [] = List.replicate 32 0 := by simp [cntR, List.map_const']
theorem cntR_snoc (L : List Hl) (a o : Nat) (h : a + 2 ^ o ≤ 32) : adN a (2 ^ o) (cntR L) = cntR (L ++ [((a : Int), (o : Int))]) := by
  refine List.ext_getElem? fun p => ?_
  by_cases hp : p < 32
  · have e1 : ∀ xs : List Int, xs.length = 32 → xs[p]? = some (xs.getD p 0) := fun xs hx => by rw [List.getD_eq_getElem?_getD, List.getElem?_eq_getElem (by omega), Option.getD_some]
    rw [e1 _ (by rw [adN_len, cntR_len]), e1 _ (cntR_len _), adN_get a _ _ (by rw [cntR_len]; exact h), cntR_get _ _ hp, cntR_get _ _ hp, List.countP_append, List.countP_singleton]
    have e2 : cvr p ((a : Int), (o : Int)) = decide (a ≤ p ∧ p < a + 2 ^ o) := by
      unfold cvr pw
      rw [Int.toNat_natCast]
      refine decide_eq_decide.2 ?_
      omega
    rw [e2]
    by_cases hc : a ≤ p ∧ p < a + 2 ^ o
    · rw [if_pos hc, decide_eq_true hc]; simp
    · rw [if_neg hc, decide_eq_false hc]; simp
  · rw [List.getElem?_eq_none (by rw [adN_len, cntR_len]; omega), List.getElem?_eq_none (by rw [cntR_len]; omega)]
theorem cntR_le (L : List Hl) (p : Nat) : 0 ≤ (cntR L).getD p 0 ∧ (cntR L).getD p 0 ≤ L.length := by
  by_cases hp : p < 32
  · rw [cntR_get _ _ hp]
    have := List.countP_le_length (p := cvr p) (l := L)
    omega
  · rw [List.getD_eq_getElem?_getD, List.getElem?_eq_none (by rw [cntR_len]; omega)]
    simp
/-- The cells of a row of numbers. -/
abbrev arr (xs : List Int) : Array Value := (xs.map (Value.int .i64)).toArray
theorem arr_get (xs : List Int) (i : Nat) (h : i < xs.length) : (arr xs)[i]? = some (.int .i64 (xs.getD i 0)) := by
  simp [List.getD_eq_getElem?_getD, h]
theorem arr_set (xs : List Int) (i : Nat) (y : Int) : (arr xs).setIfInBounds i (.int .i64 y) = arr (xs.set i y) := by
  simp [List.map_set]

set_option maxRecDepth 100000 in
set_option maxHeartbeats 1600000 in
theorem coverR_calls (a o : Nat) (xs : List Int) (g : Nat) (w : World) (h : BoxAt w g (arr xs) 163) (hl : xs.length = 32) (ho : o ≤ 5) (hb : a + 2 ^ o ≤ 32) (hv : ∀ p, 0 ≤ xs.getD p 0 ∧ xs.getD p 0 ≤ 1099511627776) :
    Calls Try.prog 149 #[.int .i64 (a : Int), .int .i64 (o : Int), .pointer (some ⟨g, 0, none⟩)] w fun e w' => e = .returned (.tuple #[]) ∧ BoxAt w' g (arr (adN a (2 ^ o) xs)) 163 ∧ w.grownBy w' (some g) := by
  have X := hide h
  have HL := hide hl
  have HV := hide hv
  obtain ⟨n, hn⟩ : ∃ n, n = 2 ^ o := ⟨_, rfl⟩
  have C := roomLong_calls o ho w
  have e1 : pw o = (n : Int) := by rw [hn]; rfl
  rw [e1] at C
  have CC := hide C
  rw [← hn] at hb ⊢
  clear h hl hv hn C e1
  go_enter Try.func149, Try.ntmps149
  go_wp2_with (go_at_call 150; refine CC.out.mono ?_; rintro e w' ⟨rfl, rfl⟩)
  go_loopw [8] (fun vi wr => ∃ k : Nat, k ≤ n ∧ vi = .int .i64 (k : Int) ∧ BoxAt wr g (arr (adN a k xs)) 163 ∧ w.grownBy wr (some g)) (fun vi _ => n - (intOf vi).toNat)
  case atStart => exact ⟨0, Nat.zero_le _, rfl, X.out, World.grownBy.refl _ _⟩
  case round =>
    obtain ⟨k, hk, rfl, hx, hg⟩ := hrel
    have Y := hide hx
    have G := hide hg
    clear hx hg X
    by_cases hlt : k < n
    · have hlt' : (k : Int) < (n : Int) := by omega
      have ln : (adN a k xs).length = 32 := by rw [adN_len]; exact HL.out
      have c0 : wr.cell? ⟨g, a + k, none⟩ = some (.int .i64 ((adN a k xs).getD (a + k) 0)) := by
        rw [Y.out.cell (a + k), arr_get _ _ (by omega)]
      have f0 := Y.out.frozen (a + k)
      have gv := adN_get a k xs (by rw [HL.out]; omega) (a + k)
      rw [if_neg (by omega)] at gv
      have hvv := HV.out (a + k)
      obtain ⟨y, hy⟩ : ∃ y, y = (adN a k xs).getD (a + k) 0 := ⟨_, rfl⟩
      have y0 : 0 ≤ y ∧ y ≤ 1099511627776 := by rw [hy, gv]; omega
      obtain ⟨y1, y2⟩ := y0
      have Y2 : Hid (BoxAt (wr.setCell ⟨g, a + k, none⟩ (.int .i64 (y + 1))) g (arr (adN a (k + 1) xs)) 163) := by
        have := Y.out.set (a + k) (.int .i64 (y + 1))
        rw [arr_set, hy] at this
        rw [hy]
        exact this
      have G2 := hide (grown_tr G.out (grown_setCell wr g (a + k) (.int .i64 (y + 1))))
      rw [← hy] at c0
      have ak : (a : Int) + (k : Int) < 32 := by omega
      have ek : ((a : Int) + (k : Int)).toNat = a + k := by omega
      clear gv hvv hy ln Y G
      go_wp2
      exact ⟨⟨k + 1, by omega, by go_num, Y2.out, G2.out⟩, by simp [intOf]; omega⟩
    · obtain rfl : k = n := by omega
      go_wp2
      go_end0
      exact ⟨rfl, Y.out, G.out⟩

/-- All places are in just one of the rooms. -/
abbrev cov1 (L : List Hl) : Prop := ∀ p, p < 32 → L.countP (cvr p) = 1
/-- The rooms of rows are rooms. -/
structure AreRm (m : List (List Int)) (hs : List Hl) : Prop where
  len : m.length ≤ 6
  free : ∀ o, o < m.length → ∀ i, i < (m.getD o []).length → rmP ((m.getD o []).getD i 0) (o : Int)
  held : ∀ i, i < hs.length → rmP (hs.getD i hl0).1 (hs.getD i hl0).2
theorem rm_fit {a o : Int} (h : rmP a o) : ∃ (an on : Nat), a = (an : Int) ∧ o = (on : Int) ∧ on ≤ 5 ∧ an + 2 ^ on ≤ 32 ∧ an < 32 ∧ an % 2 ^ on = 0 := by
  obtain ⟨h1, h2, h3, h4, h5⟩ := h
  obtain ⟨an, rfl⟩ : ∃ n : Nat, a = (n : Int) := ⟨a.toNat, by omega⟩
  obtain ⟨on, rfl⟩ : ∃ n : Nat, o = (n : Int) := ⟨o.toNat, by omega⟩
  rw [Int.toNat_natCast] at h5
  have h6 : an % 2 ^ on = 0 := by unfold pw at h5; omega
  have key : ∀ a : Nat, a < 32 → ∀ o : Nat, o < 6 → a % 2 ^ o = 0 → a + 2 ^ o ≤ 32 := by decide
  exact ⟨an, on, rfl, rfl, by omega, key an (by omega) on (by omega) h6, by omega, h6⟩

theorem setRow2R (w : World) (A : Obj) (c c' : Array Value) (t : TypeId) : ((w.alloc A).alloc (.cells c t)).setRow (w.heap.size + 1) c' = (w.alloc A).alloc (.cells c' t) := by
  have := World.setRow_alloc_new (w.alloc A) c c' t
  have e : (w.alloc A).heap.size = w.heap.size + 1 := by simp
  rwa [e] at this
theorem arrInfo : (Try.prog.info? 163).map (·.size) = some 32 := by kernel_rfl
abbrev zero32 : Array Value := #[.int .i64 0, .int .i64 0, .int .i64 0, .int .i64 0, .int .i64 0, .int .i64 0, .int .i64 0, .int .i64 0, .int .i64 0, .int .i64 0, .int .i64 0, .int .i64 0, .int .i64 0, .int .i64 0, .int .i64 0, .int .i64 0, .int .i64 0, .int .i64 0, .int .i64 0, .int .i64 0, .int .i64 0, .int .i64 0, .int .i64 0, .int .i64 0, .int .i64 0, .int .i64 0, .int .i64 0, .int .i64 0, .int .i64 0, .int .i64 0, .int .i64 0, .int .i64 0]
theorem zero32_is : zero32 = arr (cntR []) := by rw [cntR_nil]; rfl
theorem zerosR : zero32.all (·.oneCell') = true := by
  rw [zero32_is, cntR_nil]
  simp [arr, Value.oneCell']
theorem allR_len : ∀ (m : List (List Int)) (o : Nat), (allR o m).length = tot m
  | [], o => rfl
  | r :: m, o => by
    have := allR_len m (o + 1)
    simp only [allR, List.length_append, List.length_map, this, tot, List.map_cons, List.sum_cons]

set_option maxRecDepth 100000 in
set_option maxHeartbeats 3200000 in
theorem coverAll_calls (f h : Value) (m : List (List Int)) (hs : List Hl) (y : Bool) (w : World) (hf : RdM w f m) (hh : RdH w h hs) (ha : AreRm m hs) (hz : tot m + hs.length ≤ 2097152) (hy : y = true ↔ cov1 (allR 0 m ++ hs)) :
    Calls Try.prog 117 #[.agg #[f, h]] w fun e w' => e = .returned (.bool y) ∧ Below w.heap.size w w' := by
  obtain ⟨af, cf, rfl, q1, q2⟩ := hf.sl
  obtain ⟨ah, ch, rfl, q3, q4⟩ := hh.sl
  have RF := hide hf
  have RH := hide hh
  have HA := hide ha
  have HZ := hide hz
  have HY := hide hy
  have ml := ha.len
  have hl : hs.length ≤ 2097152 := by omega
  clear hf hh ha hz hy
  obtain ⟨Z, hZ⟩ : ∃ Z, Z = zero32 := ⟨_, rfl⟩
  have ZE : Hid (#[.int .i64 0, .int .i64 0, .int .i64 0, .int .i64 0, .int .i64 0, .int .i64 0, .int .i64 0, .int .i64 0, .int .i64 0, .int .i64 0, .int .i64 0, .int .i64 0, .int .i64 0, .int .i64 0, .int .i64 0, .int .i64 0, .int .i64 0, .int .i64 0, .int .i64 0, .int .i64 0, .int .i64 0, .int .i64 0, .int .i64 0, .int .i64 0, .int .i64 0, .int .i64 0, .int .i64 0, .int .i64 0, .int .i64 0, .int .i64 0, .int .i64 0, .int .i64 0] = Z) := hZ.symm
  have ZC : Hid (Z = arr (cntR [])) := hZ.trans zero32_is
  obtain ⟨w0, hw0⟩ : ∃ x, x = (w.alloc (.cells #[.slice af m.length cf, .slice ah hs.length ch] 29)).alloc (.cells Z 163) := ⟨_, rfl⟩
  have b1 := below_box (w.alloc (.cells #[.slice af m.length cf, .slice ah hs.length ch] 29)) (.cells Z 163)
  have X0 : Hid (BoxAt w0 w.heap.size #[.slice af m.length cf, .slice ah hs.length ch] 29) := by show BoxAt _ _ _ _; rw [hw0]; exact (BoxAt.new w _ _).below b1
  have Y0 : Hid (BoxAt w0 (w.heap.size + 1) (arr (cntR [])) 163) := by
    show BoxAt _ _ _ _
    rw [hw0, ZC.out]
    exact heap_alloc2_new w _ _
  have B0 : Hid (Below w.heap.size w w0) := by show Below _ _ _; rw [hw0]; exact (below_box w _).trans (b1.mono (by simp))
  have HW0 := hide hw0
  have x0 := X0.out.c2.1
  have x1 := X0.out.c2.2
  clear hw0 hZ b1 ZC
  go_enter Try.func117, Try.ntmps117
  go_wp2_with (refine wpList_store_row rfl 163 (.tmp 3) (.tmp 11) rfl (w.heap.size + 1) _ rfl rfl 163 _ (heap_alloc2_new w _ _) arrInfo rfl zerosR ?_; rw [setRow2R, ZE.out, ← HW0.out])
  clear HW0 ZE x0 x1
  obtain ⟨g0, hg0⟩ : ∃ g, g = w.heap.size := ⟨_, rfl⟩
  rw [← hg0] at X0 Y0 ⊢
  have hgl0 : w.heap.size ≤ g0 := by omega
  clear hg0
  obtain ⟨cs, hcs⟩ : ∃ cs : Array Value, cs = #[.slice af m.length cf, .slice ah hs.length ch] := ⟨_, rfl⟩
  have HCS := hide hcs
  rw [← hcs] at X0
  clear hcs
  go_loopw [16] (fun v wr => ∃ k : Nat, k ≤ m.length ∧ v = .int .i64 (k : Int) ∧ BoxAt wr (g0 + 1) (arr (cntR (allR 0 (m.take k)))) 163 ∧ BoxAt wr g0 cs 29 ∧ w.heap.size ≤ g0 ∧ Below w.heap.size w wr) (fun v _ => m.length - (intOf v).toNat)
  case atStart => exact ⟨0, Nat.zero_le _, rfl, Y0.out, X0.out, hgl0, B0.out⟩
  case round =>
    obtain ⟨k, hk, rfl, hy1, hx1, hgl, hb⟩ := hrel
    have Y1 := hide hy1
    have X1 := hide hx1
    have B1 := hide hb
    clear hy1 hx1 hb X0 Y0 B0
    by_cases hlt : k < m.length
    · have hlt' : (k : Int) < (m.length : Int) := by omega
      obtain ⟨bb, off, u, rfl, hc', hu⟩ := RF.out.row k hlt
      have hc := cell_below hc' B1.out
      obtain ⟨ua, uc, rfl, u1, u2⟩ := hu.slc
      have RU := hide hu
      have FR := hide (HA.out.free k hlt)
      have AS := hide (allR_succ m k hlt)
      have LL : (allR 0 (m.take k)).length + (m.getD k []).length ≤ tot m := by rw [allR_len]; exact tot_row_le m k hlt
      obtain ⟨r, hr⟩ : ∃ r, r = m.getD k [] := ⟨_, rfl⟩
      rw [← hr] at RU FR AS hc LL
      obtain ⟨A, hA⟩ : ∃ A, A = allR 0 (m.take k) := ⟨_, rfl⟩
      rw [← hA] at AS LL Y1
      obtain ⟨LA, hLA⟩ : ∃ n, n = A.length := ⟨_, rfl⟩
      rw [← hLA] at LL
      have HLA := hide hLA
      have LL2 : LA + r.length ≤ 2097152 := by have := HZ.out; omega
      clear hu hr u1 u2 hc' hA hLA LL
      go_wp2_with fail
      go_loopw [23] (fun v wx => ∃ i : Nat, i ≤ r.length ∧ v = .int .i64 (i : Int) ∧ BoxAt wx (g0 + 1) (arr (cntR (A ++ (r.map (fun x => (x, (k : Int)))).take i))) 163 ∧ BoxAt wx g0 cs 29 ∧ Below w.heap.size w wx) (fun v _ => r.length - (intOf v).toNat)
      case atStart => exact ⟨0, Nat.zero_le _, rfl, by rw [List.take_zero, List.append_nil]; exact Y1.out, X1.out, B1.out⟩
      case round =>
        obtain ⟨i, hi, rfl, hy1, hx1, hb⟩ := hrel
        have Y2 := hide hy1
        have X2 := hide hx1
        have B2 := hide hb
        clear hy1 hx1 hb Y1 X1
        by_cases hli : i < r.length
        · have hli' : (i : Int) < (r.length : Int) := by omega
          obtain ⟨b2, o2, rfl, d0⟩ := (RU.out.below B2.out).cellAt i hli
          obtain ⟨an, on, e1, e2, e3, e4, e5, e6⟩ := rm_fit (FR.out i hli)
          have eg : (r.map (fun x => (x, (k : Int)))).getD i hl0 = (r.getD i 0, (k : Int)) := by
            simp [List.getD_eq_getElem?_getD, hli]
          have TK := take_succ_getD (r.map (fun x => (x, (k : Int)))) i hl0 (by simpa using hli)
          rw [eg, e1] at TK
          rw [e1] at d0
          obtain rfl : on = k := by omega
          have SN := cntR_snoc (A ++ (r.map (fun x => (x, (on : Int)))).take i) an on e4
          rw [List.append_assoc, ← TK] at SN
          have CC := hide (coverR_calls an on _ (g0 + 1) wr Y2.out (cntR_len _) e3 e4 (fun p => by
            have h1 := cntR_le (A ++ (r.map (fun x => (x, (on : Int)))).take i) p
            have h2 : (A ++ (r.map (fun x => (x, (on : Int)))).take i).length ≤ 2097152 := by
              rw [List.length_append, ← HLA.out]
              simp
              omega
            omega))
          rw [SN] at CC
          clear e1 e2 eg TK SN e5 e6
          go_wp2_with fail
          refine CC.out.mono ?_
          rintro e w3 ⟨rfl, y3, g3⟩
          have Y3 := hide y3
          have X3 := hide (X2.out.kept g3 (by simp))
          have B3 := hide (B2.out.grown g3 B2.out.size (fun j hj => by cases hj; omega))
          clear y3 g3 X2 Y2 CC
          go_wp2
          go_roundw
          case rel => exact ⟨i + 1, by omega, by go_num, Y3.out, X3.out, B3.out⟩
          case measure => simp [intOf]; omega
        · obtain rfl : i = r.length := by omega
          have Y3 : Hid (BoxAt wr (g0 + 1) (arr (cntR (allR 0 (m.take (k + 1))))) 163) := by
            show BoxAt _ _ _ _
            have := Y2.out
            have e2 : (r.map (fun x => (x, (k : Int)))).take r.length = r.map (fun x => (x, (k : Int))) := List.take_of_length_le (by simp)
            rw [e2, ← AS.out] at this
            exact this
          clear Y2
          go_wp2
          go_roundw
          case rel => exact ⟨k + 1, by omega, by go_num, Y3.out, X2.out, hgl, B2.out⟩
          case measure => simp [intOf]; omega
    · obtain rfl : k = m.length := by omega
      rw [List.take_length] at Y1
      have x1 := X1.out
      rw [HCS.out] at x1
      have x2 := x1.c2.2
      have LA : (allR 0 m).length = tot m := allR_len m 0
      obtain ⟨A, hA⟩ : ∃ A, A = allR 0 m := ⟨_, rfl⟩
      rw [← hA] at Y1 HY LA
      have HLA := hide LA
      have LL2 : tot m + hs.length ≤ 2097152 := HZ.out
      obtain ⟨tm, htm⟩ : ∃ n, n = tot m := ⟨_, rfl⟩
      rw [← htm] at LL2 HLA
      clear x1 hk hA LA htm
      go_wp2_with fail
      clear x2 X1
      go_loopw [36] (fun v wx => ∃ i : Nat, i ≤ hs.length ∧ v = .int .i64 (i : Int) ∧ BoxAt wx (g0 + 1) (arr (cntR (A ++ hs.take i))) 163 ∧ Below w.heap.size w wx) (fun v _ => hs.length - (intOf v).toNat)
      case atStart => exact ⟨0, Nat.zero_le _, rfl, by rw [List.take_zero, List.append_nil]; exact Y1.out, B1.out⟩
      case round =>
        obtain ⟨i, hi, rfl, hy1, hb⟩ := hrel
        have Y2 := hide hy1
        have B2 := hide hb
        clear hy1 hb Y1
        by_cases hli : i < hs.length
        · have hli' : (i : Int) < (hs.length : Int) := by omega
          obtain ⟨b2, o2, x, z, rfl, hx, _, d0, d1⟩ := (RH.out.below B2.out).at i hli
          have hrm := HA.out.held i hli
          rw [hx] at hrm
          obtain ⟨an, on, e1, e2, e3, e4, e5, e6⟩ := rm_fit hrm
          simp only at e1 e2
          subst e1 e2
          have TK := take_succ_getD hs i hl0 hli
          rw [hx] at TK
          have SN := cntR_snoc (A ++ hs.take i) an on e4
          rw [List.append_assoc, ← TK] at SN
          have bx := below_box wr (.cells #[.int .i64 (an : Int), .int .i64 (on : Int)] 136)
          have X3 := BoxAt.new wr #[.int .i64 (an : Int), .int .i64 (on : Int)] 136
          have z0 := X3.c2.1
          have z1 := X3.c2.2
          have CC := hide (coverR_calls an on _ (g0 + 1) _ (Y2.out.below bx) (cntR_len _) e3 e4 (fun p => by
            have h1 := cntR_le (A ++ hs.take i) p
            have h2 : (A ++ hs.take i).length ≤ 2097152 := by
              rw [List.length_append, HLA.out]
              simp
              omega
            omega))
          rw [SN] at CC
          have B3 := hide (B2.out.trans (bx.mono B2.out.size))
          clear hx hrm TK SN e5 e6 bx X3
          go_wp2_with fail
          refine CC.out.mono ?_
          rintro e w3 ⟨rfl, y3, g3⟩
          have Y3 := hide y3
          have B4 := hide (B3.out.grown g3 B3.out.size (fun j hj => by cases hj; omega))
          clear y3 g3 Y2 CC
          go_wp2
          go_roundw
          case rel => exact ⟨i + 1, by omega, by go_num, Y3.out, B4.out⟩
          case measure => simp [intOf]; omega
        · obtain rfl : i = hs.length := by omega
          rw [List.take_length] at Y2
          have RD : Hid (Rd wr (.slice (some ⟨g0 + 1, 0, none⟩) 32 32) (cntR (A ++ hs))) := by
            refine ⟨_, 32, by rw [cntR_len], by rw [cntR_len]; exact Nat.le_refl _, ⟨by unfold maxLen; omega, fun h => by cases h⟩, .inr ⟨g0 + 1, 0, rfl, Y2.out.lt, fun j hj => ?_⟩⟩
            rw [Nat.zero_add, Y2.out.cell j, arr_get _ _ hj]
          have AL : Hid ((cntR (A ++ hs)).all (fun a => a == 1) = y) := by
            show _ = y
            have e : (cntR (A ++ hs)).all (fun a => a == 1) = true ↔ y = true := by
              rw [HY.out, List.all_eq_true]
              constructor
              · intro h p hp
                have := h ((cntR (A ++ hs)).getD p 0) (by rw [List.getD_eq_getElem?_getD, List.getElem?_eq_getElem (by rw [cntR_len]; exact hp), Option.getD_some]; exact List.getElem_mem _)
                rw [cntR_get _ _ hp] at this
                have h3 := eq_of_beq this
                omega
              · intro h x hx
                obtain ⟨j, hj, rfl⟩ := List.getElem_of_mem hx
                rw [cntR_len] at hj
                have h1 := cntR_get (A ++ hs) j hj
                rw [List.getD_eq_getElem?_getD, List.getElem?_eq_getElem (by rw [cntR_len]; exact hj), Option.getD_some] at h1
                rw [h1, h j hj]
                rfl
            cases y with
            | true => exact e.2 rfl
            | false =>
              cases hz : (cntR (A ++ hs)).all (fun a => a == 1) with
              | false => rfl
              | true => exact absurd (e.1 hz) (by simp)
          clear Y2
          go_wp2_with fail
          refine (allOne_calls _ _ _ RD.out).mono ?_
          rw [AL.out]
          rintro e w4 ⟨rfl, rfl⟩
          go_wp2
          go_ret
          exact ⟨rfl, B2.out⟩
end Go.Proofs.Ytjffjoednmlkiaa

namespace Go.Proofs.Ytjffjoednmlkiaa
open Go.RowKit Go.Maps Go.MapKept Go.ChangeMaps
set_option linter.unusedVariables false

/-- A row of free rooms of an order, none of which has its buddy there. -/
def rowP (o : Nat) (xs : List Int) : Prop := ∀ i, i < xs.length → rmP (xs.getD i 0) (o : Int) ∧ (i = 0 ∨ xs.getD (i - 1) 0 < xs.getD i 0) ∧ (o ≠ 5 → ¬ bud (xs.getD i 0) o ∈ xs)
/-- Held rooms, by rising places. -/
def heldP (hs : List Hl) : Prop := ∀ i, i < hs.length → rmP (hs.getD i hl0).1 (hs.getD i hl0).2 ∧ (i = 0 ∨ (hs.getD (i - 1) hl0).1 < (hs.getD i hl0).1)
/-- Good rooms. -/
structure RoomsOk (m : List (List Int)) (hs : List Hl) : Prop where
  len : m.length = 6
  rows : ∀ o, o < m.length → rowP o (m.getD o [])
  held : heldP hs
  cov : cov1 (allR 0 m ++ hs)
theorem getD_memR {α : Type} (xs : List α) (i : Nat) (d : α) (h : i < xs.length) : xs.getD i d ∈ xs := by
  rw [List.getD_eq_getElem?_getD, List.getElem?_eq_getElem h, Option.getD_some]
  exact List.getElem_mem h
theorem frRow_iff (xs : List Int) (o : Nat) : frRow xs (o : Int) = true ↔ rowP o xs := by
  unfold frRow
  rw [Bool.and_eq_true, rises_iffR, List.all_eq_true]
  have key : ∀ a : Int, rmFree xs (o : Int) a = true ↔ rmP a (o : Int) ∧ (o ≠ 5 → ¬ bud a o ∈ xs) := by
    intro a
    unfold rmFree
    rw [Bool.and_eq_true, rmB_iff]
    constructor
    · rintro ⟨h1, h2⟩
      refine ⟨h1, fun h5 hm => ?_⟩
      have hb : bdB a (o : Int) = true := by
        unfold bdB
        rw [(rmB_iff _ _).2 h1, decide_eq_true (by omega)]
        rfl
      have hv : bdV a (o : Int) = bud a o := by
        unfold bdV
        rw [hb, if_pos rfl, Int.toNat_natCast]
      rw [hb, hv, decide_eq_true hm] at h2
      simp at h2
    · rintro ⟨h1, h2⟩
      refine ⟨h1, ?_⟩
      cases hb : bdB a (o : Int) with
      | false => rfl
      | true =>
        have h5 : (o : Int) ≠ 5 := by
          intro e
          rw [e, bd_five] at hb
          cases hb
        have hv : bdV a (o : Int) = bud a o := by
          unfold bdV
          rw [hb, if_pos rfl, Int.toNat_natCast]
        rw [hv, decide_eq_false (h2 (by omega))]
        rfl
  constructor
  · rintro ⟨h1, h2⟩ i hi
    have h3 := (key _).1 (h2 _ (getD_memR xs i 0 hi))
    exact ⟨h3.1, (h1 i hi).2.2, h3.2⟩
  · intro h
    refine ⟨fun i hi => ?_, fun x hx => ?_⟩
    · obtain ⟨h1, h2, _⟩ := h i hi
      exact ⟨h1.2.2.1, h1.2.2.2.1, h2⟩
    · obtain ⟨i, hi, rfl⟩ := List.getElem_of_mem hx
      have h1 := h i hi
      rw [List.getD_eq_getElem?_getD, List.getElem?_eq_getElem hi, Option.getD_some] at h1
      exact (key _).2 ⟨h1.1, h1.2.2⟩
theorem map_getD {α β : Type} (f : α → β) (xs : List α) (i : Nat) (d : α) (e : β) (h : i < xs.length) : (xs.map f).getD i e = f (xs.getD i d) := by
  simp [List.getD_eq_getElem?_getD, h]
theorem hdRow_iff (hs : List Hl) : hdRow hs = true ↔ heldP hs := by
  unfold hdRow
  rw [Bool.and_eq_true, rises_iffR, List.all_eq_true]
  constructor
  · rintro ⟨h1, h2⟩ i hi
    have h3 := (rmB_iff _ _).1 (h2 _ (getD_memR hs i hl0 hi))
    have h4 := (h1 i (by simpa using hi)).2.2
    rw [map_getD Prod.fst hs i hl0 0 hi] at h4
    refine ⟨h3, ?_⟩
    rcases h4 with h4 | h4
    · exact .inl h4
    · by_cases h0 : i = 0
      · exact .inl h0
      · rw [map_getD Prod.fst hs (i - 1) hl0 0 (by omega)] at h4
        exact .inr h4
  · intro h
    refine ⟨fun i hi => ?_, fun x hx => ?_⟩
    · have hi' : i < hs.length := by simpa using hi
      obtain ⟨h1, h2⟩ := h i hi'
      rw [map_getD Prod.fst hs i hl0 0 hi']
      refine ⟨h1.2.2.1, h1.2.2.2.1, ?_⟩
      rcases h2 with h2 | h2
      · exact .inl h2
      · right
        rw [map_getD Prod.fst hs (i - 1) hl0 0 (by omega)]
        exact h2
    · obtain ⟨i, hi, rfl⟩ := List.getElem_of_mem hx
      have h1 := h i hi
      rw [List.getD_eq_getElem?_getD, List.getElem?_eq_getElem hi, Option.getD_some] at h1
      exact (rmB_iff _ _).2 h1.1
theorem are_rm {m : List (List Int)} {hs : List Hl} (hl : m.length ≤ 6) (h1 : ∀ o, o < m.length → rowP o (m.getD o [])) (h2 : heldP hs) : AreRm m hs :=
  ⟨hl, fun o ho i hi => (h1 o ho i hi).1, fun i hi => (h2 i hi).1⟩
theorem bFR {p : Prop} {y : Bool} (h : y = true ↔ p) (hn : ¬ p) : y = false := by
  cases y with
  | false => rfl
  | true => exact absurd (h.1 rfl) hn

set_option maxRecDepth 100000 in
set_option maxHeartbeats 3200000 in
theorem goodRooms_calls (f h : Value) (m : List (List Int)) (hs : List Hl) (y : Bool) (w : World) (hf : RdM w f m) (hh : RdH w h hs) (hz : tot m + hs.length ≤ 2097152) (hz2 : hs.length ≤ 1048576) (hy : y = true ↔ RoomsOk m hs) :
    Calls Try.prog 57 #[.agg #[f, h]] w fun e w' => e = .returned (.bool y) ∧ Below w.heap.size w w' := by
  obtain ⟨af, cf, rfl, q1, q2⟩ := hf.sl
  obtain ⟨ah, ch, rfl, q3, q4⟩ := hh.sl
  have hmm : m.length ≤ maxLen := by omega
  unfold maxLen at hmm
  have RF := hide hf
  have RH := hide hh
  have HZ := hide hz
  have HY := hide hy
  have A0 := hide ((Hand.start w).box #[.slice af m.length cf, .slice ah hs.length ch] 29)
  obtain ⟨x0, x1⟩ := (A0.out.atBox 0 rfl).c2
  clear hf hh hz hy q1 q2 q3 q4
  by_cases h6 : m.length = 6
  case neg =>
    obtain rfl : y = false := bFR HY.out (fun h => h6 h.len)
    have e6 : ((m.length : Int) != 6) = true := by simp; omega
    clear h6
    go_enter Try.func57, Try.ntmps57
    go_wp2
    go_ret
    exact ⟨rfl, A0.out.below⟩
  have e6 : ((m.length : Int) != 6) = false := by simp; omega
  have H6 := hide h6
  have ml : m.length ≤ 6 := by omega
  clear h6
  by_cases hh : heldP hs
  case neg =>
    obtain rfl : y = false := bFR HY.out (fun h => hh h.held)
    have E : Hid (hdRow hs = false) := by
      show hdRow hs = false
      cases hc : hdRow hs with
      | false => rfl
      | true => exact absurd ((hdRow_iff hs).1 hc) hh
    clear hh
    go_enter Try.func57, Try.ntmps57
    go_wp2_with fail
    refine (areHeld_calls _ hs _ (RH.out.below A0.out.below) hz2).mono ?_
    rw [E.out]
    rintro e w1 ⟨rfl, b1⟩
    have A1 := hide (A0.out.step b1)
    clear b1
    go_wp2
    go_ret
    exact ⟨rfl, A1.out.below⟩
  have E : Hid (hdRow hs = true) := (hdRow_iff hs).2 hh
  have HH := hide hh
  clear hh
  go_enter Try.func57, Try.ntmps57
  go_wp2_with fail
  refine (areHeld_calls _ hs _ (RH.out.below A0.out.below) hz2).mono ?_
  rw [E.out]
  rintro e w1 ⟨rfl, b1⟩
  have A1 := hide (A0.out.step b1)
  clear b1 A0 x0 x1
  obtain ⟨x0, x1⟩ := (A1.out.atBox 0 rfl).c2
  go_wp2_with fail
  clear x0 x1
  go_loopw [18] (fun v wr => ∃ k : Nat, k ≤ m.length ∧ v = .int .i64 (k : Int) ∧ (∀ o, o < k → rowP o (m.getD o [])) ∧ Hand w wr [TBox w.heap.size #[.slice af m.length cf, .slice ah hs.length ch] 29]) (fun v _ => m.length - (intOf v).toNat)
  case atStart => exact ⟨0, Nat.zero_le _, rfl, fun o ho => by omega, A1.out⟩
  case round =>
    obtain ⟨k, hk, rfl, hall, ha⟩ := hrel
    have AL := hide hall
    have A2 := hide ha
    clear hall ha A1
    by_cases hlt : k < m.length
    · have hlt' : (k : Int) < (m.length : Int) := by omega
      obtain ⟨bb, off, u, rfl, hc, hu⟩ := (RF.out.below A2.out.below).row k hlt
      have IF := hide (frRow_iff (m.getD k []) k)
      obtain ⟨r, hr⟩ : ∃ r, r = m.getD k [] := ⟨_, rfl⟩
      have HR := hide hr
      rw [← hr] at hu IF
      have RU := hide hu
      clear hr hu
      cases hg : frRow r (k : Int) with
      | true =>
        have G := hide hg
        clear hg
        go_wp2_with fail
        refine (areFree_calls _ r (k : Int) _ RU.out).mono ?_
        rw [G.out]
        rintro e w3 ⟨rfl, b3⟩
        have A3 := hide (A2.out.step b3)
        clear b3
        go_wp2
        go_roundw
        case rel =>
          refine ⟨k + 1, by omega, by go_num, fun o ho => ?_, A3.out⟩
          by_cases e : o = k
          · subst e; rw [← HR.out]; exact IF.out.1 G.out
          · exact AL.out o (by omega)
        case measure => simp [intOf]; omega
      | false =>
        obtain rfl : y = false := bFR HY.out (fun h => by
          have := IF.out.2 (by rw [HR.out]; exact h.rows k hlt)
          rw [hg] at this
          cases this)
        have G := hide hg
        clear hg
        go_wp2_with fail
        refine (areFree_calls _ r (k : Int) _ RU.out).mono ?_
        rw [G.out]
        rintro e w3 ⟨rfl, b3⟩
        have A3 := hide (A2.out.step b3)
        clear b3
        go_wp2
        go_ret
        exact ⟨rfl, A3.out.below⟩
    · obtain rfl : k = m.length := by omega
      have AR := hide (are_rm ml AL.out HH.out)
      have IFY : Hid (y = true ↔ cov1 (allR 0 m ++ hs)) := ⟨fun h => (HY.out.1 h).cov, fun h => HY.out.2 ⟨H6.out, AL.out, HH.out, h⟩⟩
      obtain ⟨x0, x1⟩ := (A2.out.atBox 0 rfl).c2
      clear hk
      go_wp2_with fail
      refine (coverAll_calls _ _ m hs y _ (RF.out.below A2.out.below) (RH.out.below A2.out.below) AR.out HZ.out IFY.out).mono ?_
      rintro e w3 ⟨rfl, b3⟩
      have A3 := hide (A2.out.step b3)
      clear b3 x0 x1
      go_wp2
      go_ret
      exact ⟨rfl, A3.out.below⟩
end Go.Proofs.Ytjffjoednmlkiaa
