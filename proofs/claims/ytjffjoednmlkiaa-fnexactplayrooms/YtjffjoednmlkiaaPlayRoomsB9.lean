/-
  The laws' own small functions over rows of integers (how great, copied, compared, marked, looked whether the marks are held), call by call. Each contract says what it asks.
-/
import Derived.Test.YtjffjoednmlkiaaPlayRoomsB5
namespace Go.Proofs.Ytjffjoednmlkiaa
open Go.RowKit

def tot (m : List (List Int)) : Nat := (m.map List.length).sum
theorem tot_nil : tot [] = 0 := rfl
theorem tot_take_succ (m : List (List Int)) (k : Nat) (h : k < m.length) : tot (m.take (k + 1)) = tot (m.take k) + (m.getD k []).length := by
  unfold tot
  rw [List.take_succ_eq_append_getElem h, List.map_append, List.sum_append]
  simp [List.getD_eq_getElem?_getD, List.getElem?_eq_getElem h]
theorem tot_app (a b : List (List Int)) : tot (a ++ b) = tot a + tot b := by simp [tot]
theorem tot_take_le (m : List (List Int)) (k : Nat) : tot (m.take k) ≤ tot m := by
  have := congrArg tot (List.take_append_drop k m)
  rw [tot_app] at this
  omega
theorem tot_row_le (m : List (List Int)) (k : Nat) (h : k < m.length) : tot (m.take k) + (m.getD k []).length ≤ tot m := by
  rw [← tot_take_succ m k h]; exact tot_take_le m (k + 1)
theorem Own.shape {w : World} {base : Nat} {v : Value} {xs : List Int} (h : Own w base v xs) : ∃ a n c, v = .slice a n c := by
  rcases h.2 with ⟨rfl, _⟩ | ⟨g, cap, cur, rfl, _⟩
  · exact ⟨_, _, _, rfl⟩
  · exact ⟨_, _, _, rfl⟩

set_option maxRecDepth 100000 in
set_option maxHeartbeats 400000 in
theorem szIntS_calls (v : Value) (xs : List Int) (l : Int) (w : World) (h : Rd w v xs) (h0 : 0 ≤ l) (hl : l ≤ 1048576) :
    Calls Try.prog 83 #[v, .int .i64 l] w fun e w' => e = .returned (.int .i64 (if (xs.length : Int) ≤ l then l - xs.length else -1)) ∧ w = w' := by
  obtain ⟨a, cap, rfl, h1, h2, h3⟩ := h
  have hm : xs.length ≤ maxLen := by omega
  unfold maxLen at hm
  clear h3 h2 h1
  by_cases hc : (xs.length : Int) ≤ l
  · rw [if_pos hc]
    have e : ¬ (l - (xs.length : Int) < 0) := by omega
    go_enter Try.func83, Try.ntmps83
    go_wp2
    go_ret
    exact ⟨rfl, rfl⟩
  · rw [if_neg hc]
    have e : l - (xs.length : Int) < 0 := by omega
    go_enter Try.func83, Try.ntmps83
    go_wp2
    go_ret
    exact ⟨rfl, rfl⟩

set_option maxRecDepth 100000 in
set_option maxHeartbeats 800000 in
theorem szIntSS_calls (v : Value) (m : List (List Int)) (l : Int) (w : World) (h : RdM w v m) (h0 : 0 ≤ l) (hl : l ≤ 1048576) :
    Calls Try.prog 50 #[v, .int .i64 l] w fun e w' => e = .returned (.int .i64 (if (m.length : Int) + tot m ≤ l then l - (m.length + tot m) else -1)) ∧ w = w' := by
  have R := hide h
  obtain ⟨a, cap, rfl, h1, h2, h3⟩ := h
  have hm : m.length ≤ maxLen := by omega
  unfold maxLen at hm
  clear h3 h2 h1
  by_cases hc : (m.length : Int) ≤ l
  case neg =>
    rw [if_neg (by omega)]
    have e : l - (m.length : Int) < 0 := by omega
    go_enter Try.func50, Try.ntmps50
    go_wp2
    go_ret
    exact ⟨rfl, rfl⟩
  have e : ¬ (l - (m.length : Int) < 0) := by omega
  obtain ⟨T, hT⟩ : ∃ T : Nat, T = tot m := ⟨_, rfl⟩
  rw [← hT]
  have TT := hide hT
  clear hT
  obtain ⟨res, hres⟩ : ∃ res : Int, res = if (m.length : Int) + T ≤ l then l - (m.length + T) else -1 := ⟨_, rfl⟩
  rw [← hres]
  have RS := hide hres
  clear hres
  go_enter Try.func50, Try.ntmps50
  go_wp2
  go_loop [1, 5] (fun vl vi => ∃ (k t : Nat), k ≤ m.length ∧ vi = .int .i64 k ∧ t = tot (m.take k) ∧ (m.length : Int) + t ≤ l ∧ vl = .int .i64 (l - m.length - t)) (fun _ vi => m.length - (intOf vi).toNat)
  case atStart => exact ⟨0, 0, Nat.zero_le _, rfl, by simp [tot], by omega, by go_num⟩
  case round =>
    obtain ⟨k, t, hk, rfl, ht, htl, rfl⟩ := hrel
    have Ht := hide ht
    clear ht
    by_cases hlt : k < m.length
    · obtain ⟨b, off, u, rfl, hc1, hu⟩ := R.out.row k hlt
      have U := hide hu
      clear hu
      obtain ⟨r, hr⟩ : ∃ r, r = (m.getD k []).length := ⟨_, rfl⟩
      have hs := tot_take_succ m k hlt
      have hs2 := tot_row_le m k hlt
      rw [← hr, ← Ht.out] at hs hs2
      have Hs := hide hs
      have Hs2 := hide hs2
      have Hr := hide hr
      clear hs hs2 hr
      have hlt' : (k : Int) < (m.length : Int) := by omega
      by_cases hf : (r : Int) ≤ l - (m.length : Int) - (t : Int)
      · have e2 : ¬ (l - (m.length : Int) - (t : Int) - (r : Int) < 0) := by omega
        go_wp2_with (go_at_call 83; refine (szIntS_calls _ _ _ _ U.out (by omega) (by omega)).mono ?_; rw [← Hr.out, if_pos hf]; rintro e w' ⟨rfl, rfl⟩)
        go_round
        case rel => exact ⟨k + 1, t + r, by omega, by go_num, Hs.out.symm, by omega, by go_num⟩
        case measure => simp [intOf]; omega
      · go_wp2_with (go_at_call 83; refine (szIntS_calls _ _ _ _ U.out (by omega) (by omega)).mono ?_; rw [← Hr.out, if_neg hf]; rintro e w' ⟨rfl, rfl⟩)
        go_ret
        have h1 := Hs2.out
        have h2 := TT.out
        have h3 := RS.out
        rw [if_neg (by omega)] at h3
        rw [h3]
        exact ⟨rfl, rfl⟩
    · obtain rfl : k = m.length := by omega
      have h1 := Ht.out
      rw [List.take_length, ← TT.out] at h1
      have H1 := hide h1
      have Htl := hide htl
      clear h1 htl
      go_wp2
      go_ret
      have h3 := RS.out
      have h1 := H1.out
      have htl := Htl.out
      rw [if_pos (by omega)] at h3
      exact ⟨by rw [show res = l - (m.length : Int) - (t : Int) from by omega]; rfl, rfl⟩

/-- 'make([][]int, n)': n rows of nothing of the call's own, in the next block. -/
theorem wpList_make_rows {w : World} {ops : Array Oper} {rest : List Oper} {o : Oper} {a : Act} {Q : Exit → Act → World → Prop} (hg : o.guard = none) (l c : Operand) (hop : o.op = Op.makeSlice 22 l c)
    (L C : Int) (n : Nat) (hl : a.eval l = .int .i64 L) (hc : a.eval c = .int .i64 C) (hL : L = (n : Int)) (hC : C = (n : Int)) (hn : n ≤ 1048576)
    (h : ∀ w', MatV w' w.heap.size w'.heap.size (.slice (some ⟨w.heap.size, 0, none⟩) n n) (List.replicate n nilRow) (List.replicate n []) → w.grownBy w' none → wpList Try.prog ops Q rest (a.put o.dst (.slice (some ⟨w.heap.size, 0, none⟩) n n)) w') : wpList Try.prog ops Q (o :: rest) a w := by
  obtain ⟨i0, hi, hz0, hz1, hz2⟩ := info_parts infoRow
  refine wpList_make_full w hg l c _ hop w.heap.size 36 i0 (.slice none 0 0) 1 Try.underlying22 hi hz0 hz1 _ _ L C n hl hc hL hC (by rw [hz2]; omega) (by unfold maxLen; omega) (Nat.le_refl _) ?_
  intro w' ho hg'
  refine h w' ?_ hg'
  have e : (madeCells (Value.slice none 0 0).cells (n * 1)).toList = List.replicate n nilRow := by
    rw [Nat.mul_one]; exact toList_madeCells_one _ n
  rw [e] at ho
  have g1 : ∀ i, i < n → (List.replicate n nilRow).getD i nilRow = nilRow := fun i hi => by simp [List.getD_eq_getElem?_getD, hi]
  refine ⟨by simp, by rw [List.length_replicate]; exact ho, ?_, fun k hk => (World.ownsRow.lt ho k hk).2, ?_, ?_⟩
  · intro i hi
    rw [List.length_replicate] at hi
    rw [g1 i hi]
    have g2 : (List.replicate n ([] : List Int)).getD i [] = [] := by simp [List.getD_eq_getElem?_getD, hi]
    rw [g2]
    exact World.ownsRow_nil _ _ _ _
  · intro i k hi hk
    rw [List.length_replicate] at hi
    rw [g1 i hi] at hk
    simp [Value.ownBlock] at hk
  · intro i j hi hj _
    rw [List.length_replicate] at hi
    rw [g1 i hi]
    exact .inl rfl

/-- The first k rows; nothing in the others. -/
def toTo (m : List (List Int)) (k : Nat) : List (List Int) := m.take k ++ List.replicate (m.length - k) []
theorem toTo_length (m : List (List Int)) (k : Nat) (h : k ≤ m.length) : (toTo m k).length = m.length := by simp [toTo]; omega
theorem toTo_step (m : List (List Int)) (k : Nat) (h : k < m.length) : (toTo m k).set k (m.getD k []) = toTo m (k + 1) := by
  have e1 : (m.take k).length = k := by simp; omega
  unfold toTo
  rw [List.set_append_right _ _ (by omega), e1, Nat.sub_self]
  obtain ⟨j, hm⟩ : ∃ j, m.length - k = j + 1 := ⟨m.length - k - 1, by omega⟩
  have hm2 : m.length - (k + 1) = j := by omega
  rw [hm, hm2, List.replicate_succ, List.set_cons_zero, List.take_succ_eq_append_getElem h, List.append_assoc]
  simp only [List.getD_eq_getElem?_getD, List.getElem?_eq_getElem h, Option.getD_some, List.singleton_append]
theorem toTo_end (m : List (List Int)) : toTo m m.length = m := by simp [toTo]
theorem toTo_zero (m : List (List Int)) : toTo m 0 = List.replicate m.length [] := by simp [toTo]

set_option maxRecDepth 100000 in
set_option maxHeartbeats 800000 in
theorem toIntSS_calls (v : Value) (m : List (List Int)) (w : World) (h : RdM w v m) (hn : m.length + tot m ≤ 1048576) :
    Calls Try.prog 55 #[v] w fun e w' => ∃ v', e = .returned v' ∧ Mat w' w.heap.size w'.heap.size v' m ∧ Below w.heap.size w w' := by
  have R := hide h
  obtain ⟨a, cap, rfl, h1, h2, h3⟩ := h
  clear h3 h2 h1
  have hn1 : m.length ≤ 1048576 := by omega
  have Hn := hide hn
  clear hn
  go_enter Try.func55, Try.ntmps55
  go_wp2_with (at_make; refine wpList_make_rows rfl _ _ rfl _ _ m.length rfl rfl (by omega) (by omega) hn1 ?_)
  intro w0 hm0 hg0
  go_wp2
  go_loopw [4] (fun vi wr => ∃ (k : Nat) (vs : List Value), k ≤ m.length ∧ vi = .int .i64 k ∧ MatV wr w.heap.size wr.heap.size (.slice (some ⟨w.heap.size, 0, none⟩) m.length m.length) vs (toTo m k) ∧ Below w.heap.size w wr) (fun vi _ => m.length - (intOf vi).toNat)
  case atStart =>
    refine ⟨0, List.replicate m.length nilRow, Nat.zero_le _, rfl, ?_, (Below.refl _ _).grown hg0 (Nat.le_refl _) (fun k h => by cases h)⟩
    rw [toTo_zero]
    exact hm0
  case round =>
    obtain ⟨k, vs, hk, rfl, hm, hb⟩ := hrel
    by_cases hlt : k < m.length
    · obtain ⟨b, off, u, rfl, hc1, hu⟩ := (R.out.below hb).row k hlt
      have U := hide hu
      have M := hide hm
      have B := hide hb
      clear hu hm hb hm0 hg0
      have hlt' : (k : Int) < (m.length : Int) := by omega
      go_wp2_with fail
      refine (toIntS_calls _ _ _ U.out (by have := tot_row_le m k hlt; have := Hn.out; omega)).mono ?_
      rintro e w1 ⟨x, rfl, hx, hb1⟩
      obtain ⟨xa, xn, xc, rfl⟩ := hx.shape
      have hkl : k < (toTo m k).length := by rw [toTo_length m k hk]; exact hlt
      have hM1 := M.out.below hb1
      have hc2 : w1.frozen? ⟨w.heap.size, k, none⟩ = false := World.ownsRow.frozenAt (by have := hM1.head; rwa [toTo_length m k hk] at this) k
      have hc3 := hM1.cell k hkl
      have L := hide (M.out.lay k hkl hb1 _ _ hx M.out.sizeLo (Nat.le_refl _))
      have B1 := hide hb1
      clear hM1 hx hb1
      go_wp2
      go_roundw
      case rel =>
        refine ⟨k + 1, vs.set k (.slice xa xn xc), by omega, by go_num, ?_, ?_⟩
        · have := L.out.1
          rw [toTo_step m k hlt] at this
          exact this
        · exact (B.out.trans (B1.out.mono B.out.size)).setCell (Nat.le_refl _) _
      case measure => simp [intOf]; omega
    · obtain rfl : k = m.length := by omega
      go_wp2
      go_ret
      rw [toTo_end] at hm
      exact ⟨_, rfl, ⟨_, hm⟩, hb⟩

set_option maxRecDepth 100000 in
set_option maxHeartbeats 400000 in
theorem eqIntS_quiet (v1 v2 : Value) (xs : List Int) (w : World) (h1 : Rd w v1 xs) (h2 : Rd w v2 xs) :
    Calls Try.prog 21 #[v1, v2] w fun e w' => e = .returned (.bool true) ∧ ∃ n, w' = w.drewN n := by
  obtain ⟨a1, c1, rfl, _, m1, k1⟩ := h1
  obtain ⟨a2, c2, rfl, _, _, k2⟩ := h2
  have hm : xs.length ≤ maxLen := by omega
  unfold maxLen at hm
  have K := hide k1
  have L := hide k2
  clear k1 k2 m1
  go_enter Try.func21, Try.ntmps21
  go_wp2
  go_loopw [5] (fun vi wr => ∃ k n : Nat, k ≤ xs.length ∧ vi = .int .i64 k ∧ wr = w.drewN n) (fun vi _ => xs.length - (intOf vi).toNat)
  case atStart => exact ⟨0, 0, Nat.zero_le _, rfl, rfl⟩
  case round =>
    obtain ⟨k, n, hk, rfl, rfl⟩ := hrel
    by_cases hlt : k < xs.length
    · rcases K.out with h3 | ⟨b, off, rfl, hbs, hc⟩
      · subst h3; simp at hlt
      rcases L.out with h3 | ⟨b', off', rfl, hbs', hc'⟩
      · subst h3; simp at hlt
      have e1 : w.cell? ⟨b, off + k, none⟩ = some (.int .i64 (xs.getD k 0)) := hc k hlt
      have e2 : w.cell? ⟨b', off' + k, none⟩ = some (.int .i64 (xs.getD k 0)) := hc' k hlt
      have hlt' : (k : Int) < (xs.length : Int) := by omega
      clear hc hc'
      go_wp2
      go_quiet (fail)
      go_wp2
      go_roundw
      case rel => exact ⟨k + 1, _, by omega, by go_num, rfl⟩
      case measure => simp [intOf]; omega
    · obtain rfl : k = xs.length := by omega
      go_wp2
      go_ret
      exact ⟨rfl, _, rfl⟩
theorem quiet_more {P : Program} {f : FuncId} {args : Array Value} {w : World} {n : Nat} {v : Value}
    (h : Calls P f args (w.drewN n) fun e w' => e = .returned v ∧ ∃ m, w' = (w.drewN n).drewN m) : Calls P f args (w.drewN n) fun e w'' => e = .returned v ∧ ∃ m, w'' = w.drewN m :=
  h.mono fun _ _ ⟨he, m, hm⟩ => ⟨he, n + m, by rw [hm, World.drewN_drewN]⟩
theorem Rd.drewN {w : World} {v : Value} {xs : List Int} (h : Rd w v xs) (n : Nat) : Rd (w.drewN n) v xs := h.below (below_drewN' n)

set_option maxRecDepth 100000 in
set_option maxHeartbeats 800000 in
theorem eqIntSS_same (v1 v2 : Value) (m : List (List Int)) (w : World) (h1 : RdM w v1 m) (h2 : RdM w v2 m) :
    Calls Try.prog 61 #[v1, v2] w fun e w' => e = .returned (.bool true) ∧ Below w.heap.size w w' := by
  have K := hide h1
  have L := hide h2
  obtain ⟨a1, c1, rfl, _, m1, k1⟩ := h1
  obtain ⟨a2, c2, rfl, _, _, k2⟩ := h2
  have hm : m.length ≤ maxLen := by omega
  unfold maxLen at hm
  clear k1 k2 m1
  go_enter Try.func61, Try.ntmps61
  go_wp2
  go_loopw [5] (fun vi wr => ∃ k : Nat, k ≤ m.length ∧ vi = .int .i64 k ∧ Below w.heap.size w wr) (fun vi _ => m.length - (intOf vi).toNat)
  case atStart => exact ⟨0, Nat.zero_le _, rfl, Below.refl _ _⟩
  case round =>
    obtain ⟨k, hk, rfl, hb⟩ := hrel
    by_cases hlt : k < m.length
    · obtain ⟨b, off, u, rfl, hc1, hu⟩ := (K.out.below hb).row k hlt
      obtain ⟨b', off', u', rfl, hc2, hu'⟩ := (L.out.below hb).row k hlt
      have U := hide hu
      have U' := hide hu'
      have hlt' : (k : Int) < (m.length : Int) := by omega
      have B := hide hb
      clear hu hu' hb
      go_wp2
      go_quiet ((go_at_call 21; exact quiet_more (eqIntS_quiet _ _ _ _ (Rd.drewN U.out _) (Rd.drewN U'.out _))))
      go_wp2
      go_roundw
      case rel => exact ⟨k + 1, by omega, by go_num, below_drewN B.out _⟩
      case measure => simp [intOf]; omega
    · obtain rfl : k = m.length := by omega
      go_wp2
      go_ret
      exact ⟨rfl, hb⟩

/-- The rows' marks: each row's numbers go on where the row ahead of it stopped. -/
def mkM (k : Int) (m : List (List Int)) (j : Nat) : List Int := marks (k + tot (m.take j)) (m.getD j []).length
def mkToM (k : Int) (m : List (List Int)) (i : Nat) : List (List Int) := (List.range i).map (mkM k m) ++ m.drop i
def marksM (k : Int) (m : List (List Int)) : List (List Int) := (List.range m.length).map (mkM k m)
theorem mkToM_length (k : Int) (m : List (List Int)) (i : Nat) (h : i ≤ m.length) : (mkToM k m i).length = m.length := by simp [mkToM]; omega
theorem mkToM_get (k : Int) (m : List (List Int)) (i : Nat) : (mkToM k m i).getD i [] = m.getD i [] := by
  simp only [mkToM, List.getD_eq_getElem?_getD]
  rw [List.getElem?_append_right (by simp)]
  simp
theorem mkToM_step (k : Int) (m : List (List Int)) (i : Nat) (h : i < m.length) : (mkToM k m i).set i (mkM k m i) = mkToM k m (i + 1) := by
  unfold mkToM
  rw [List.set_append_right _ _ (by simp), List.length_map, List.length_range, Nat.sub_self, List.drop_eq_getElem_cons h, List.set_cons_zero]
  simp [List.range_succ]
theorem mkToM_end (k : Int) (m : List (List Int)) : mkToM k m m.length = marksM k m := by simp [mkToM, marksM]
theorem marksM_length (k : Int) (m : List (List Int)) : (marksM k m).length = m.length := by simp [marksM]
theorem marksM_get (k : Int) (m : List (List Int)) (i : Nat) (h : i < m.length) : (marksM k m).getD i [] = mkM k m i := by simp [marksM, h]

set_option maxRecDepth 100000 in
set_option maxHeartbeats 800000 in
theorem markIntSS_calls (v : Value) (m : List (List Int)) (k : Int) (lo hi : Nat) (w : World) (h : Mat w lo hi v m) (hk0 : 0 ≤ k) (hk : k ≤ 1073741824) (hn : m.length + tot m ≤ 1048576) :
    Calls Try.prog 63 #[v, .int .i64 k] w fun e w' => e = .returned (.int .i64 (k + tot m)) ∧ Mat w' lo hi v (marksM k m) ∧ Chg lo hi w w' := by
  obtain ⟨vs, h⟩ := h
  by_cases h0 : m.length = 0
  · have e : m = [] := List.eq_nil_of_length_eq_zero h0
    subst e
    rcases h.head.2 with ⟨rfl, _⟩ | ⟨g, cap, cur, rfl, _⟩
    · go_enter Try.func63, Try.ntmps63
      go_wp2
      refine wp_loop_rounds 1 ?_
      rw [rounds_succ]
      go_wp2
      go_ret
      exact ⟨by simp [tot], ⟨vs, h⟩, Chg.refl _ _ _⟩
    · go_enter Try.func63, Try.ntmps63
      go_wp2
      refine wp_loop_rounds 1 ?_
      rw [rounds_succ]
      go_wp2
      go_ret
      exact ⟨by simp [tot], ⟨vs, h⟩, Chg.refl _ _ _⟩
  obtain ⟨g, cap, rfl, hg1, hg2, hg3, hg4⟩ := h.open (by omega)
  have hn1 : m.length ≤ 1048576 := by omega
  have Hn := hide hn
  have H := hide h
  clear hn h
  go_enter Try.func63, Try.ntmps63
  go_wp2
  go_loopw [1, 5] (fun vk vi wr => ∃ (i t : Nat), i ≤ m.length ∧ vi = .int .i64 i ∧ t = tot (m.take i) ∧ t ≤ 1048576 ∧ vk = .int .i64 (k + t) ∧ MatV wr lo hi (.slice (some ⟨g, 0, none⟩) m.length cap) vs (mkToM k m i) ∧ Chg lo hi w wr) (fun _ vi _ => m.length - (intOf vi).toNat)
  case atStart => exact ⟨0, 0, Nat.zero_le _, rfl, by simp [tot], by omega, by go_num, by simpa [mkToM] using H.out, Chg.refl _ _ _⟩
  case round =>
    obtain ⟨i, t, hi', rfl, ht, ht2, rfl, hM, hC⟩ := hrel
    by_cases hlt : i < m.length
    · have hil : i < (mkToM k m i).length := by rw [mkToM_length k m i hi']; exact hlt
      have hc1 := hM.cell i hil
      have hro := hM.row i hil
      rw [mkToM_get k m i] at hro
      obtain ⟨u, hu⟩ : ∃ u, u = vs.getD i nilRow := ⟨_, rfl⟩
      rw [← hu] at hc1 hro
      obtain ⟨r, hr⟩ : ∃ r, r = (m.getD i []).length := ⟨_, rfl⟩
      have hs := tot_take_succ m i hlt
      have hs2 := tot_row_le m i hlt
      rw [← hr, ← ht] at hs hs2
      have U := hide hu
      have M := hide hM
      have C := hide hC
      have Ro := hide hro
      have Ht := hide ht
      have Hr := hide hr
      have Hs := hide hs
      have hr2 : r ≤ 1048576 := by have := Hn.out; omega
      have hr3 : t + r ≤ 1048576 := by have := Hn.out; omega
      clear hu hM hC hro ht hr hs hs2
      have hlt' : (i : Int) < (m.length : Int) := by omega
      go_wp2_with fail
      refine (markIntS_calls u (m.getD i []) (k + t) lo _ Ro.out (by omega) (by omega) (by rw [← Hr.out]; omega)).mono ?_
      rw [← Hr.out]
      rintro e w1 ⟨rfl, ho, hg⟩
      have O := hide ho
      have G := hide hg
      clear ho hg
      go_wp2
      go_roundw
      case rel =>
        have ho := O.out
        have hg := G.out
        have hu := U.out
        rw [hu] at ho hg
        refine ⟨i + 1, t + r, by omega, by go_num, Hs.out.symm, hr3, by go_num, ?_, C.out.trans (M.out.writeChg i hil hg)⟩
        have := M.out.write i hil (mkM k m i) (by unfold mkM; rw [← Hr.out, ← Ht.out]; exact ho) hg
        rwa [mkToM_step k m i hlt] at this
      case measure => simp [intOf]; omega
    · obtain rfl : i = m.length := by omega
      have h1 := ht
      rw [List.take_length] at h1
      rw [mkToM_end] at hM
      have M := hide hM
      have C := hide hC
      have H1 := hide h1
      clear hM hC ht h1
      go_wp2
      go_ret
      exact ⟨by rw [H1.out]; rfl, ⟨_, M.out⟩, C.out⟩

set_option maxRecDepth 100000 in
set_option maxHeartbeats 800000 in
theorem heldIntSS_calls (v : Value) (m : List (List Int)) (k : Int) (w : World) (h : RdM w v (marksM k m)) (hk0 : 0 ≤ k) (hk : k ≤ 1073741824) (hn : m.length + tot m ≤ 1048576) :
    Calls Try.prog 65 #[v, .int .i64 k] w fun e w' => e = .returned (.int .i64 (k + tot m)) ∧ w = w' := by
  have R := hide h
  obtain ⟨a, cap, rfl, h1, h2, h3⟩ := h
  rw [marksM_length] at *
  have hn1 : m.length ≤ 1048576 := by omega
  have Hn := hide hn
  clear h3 h2 h1 hn
  go_enter Try.func65, Try.ntmps65
  go_wp2
  go_loop [1, 5] (fun vk vi => ∃ (i t : Nat), i ≤ m.length ∧ vi = .int .i64 i ∧ t = tot (m.take i) ∧ t ≤ 1048576 ∧ vk = .int .i64 (k + t)) (fun _ vi => m.length - (intOf vi).toNat)
  case atStart => exact ⟨0, 0, Nat.zero_le _, rfl, by simp [tot], by omega, by go_num⟩
  case round =>
    obtain ⟨i, t, hi, rfl, ht, ht2, rfl⟩ := hrel
    by_cases hlt : i < m.length
    · obtain ⟨b, off, u, rfl, hc1, hu⟩ := R.out.row i (by rw [marksM_length]; exact hlt)
      rw [marksM_get k m i hlt] at hu
      unfold mkM at hu
      obtain ⟨r, hr⟩ : ∃ r, r = (m.getD i []).length := ⟨_, rfl⟩
      have hs := tot_take_succ m i hlt
      have hs2 := tot_row_le m i hlt
      rw [← hr, ← ht] at hs hs2
      rw [← hr, ← ht] at hu
      have U := hide hu
      have Hs := hide hs
      have hr2 : r ≤ 1048576 := by have := Hn.out; omega
      have hr3 : t + r ≤ 1048576 := by have := Hn.out; omega
      clear hu hr hs hs2 ht
      have hlt' : (i : Int) < (m.length : Int) := by omega
      go_wp2_with (go_at_call 23; refine (heldIntS_calls u r (k + t) _ U.out (by omega) (by omega) (by omega)).mono ?_; rintro e w' ⟨rfl, rfl⟩)
      go_round
      case rel => exact ⟨i + 1, t + r, by omega, by go_num, Hs.out.symm, hr3, by go_num⟩
      case measure => simp [intOf]; omega
    · obtain rfl : i = m.length := by omega
      have h1 := ht
      rw [List.take_length] at h1
      have H1 := hide h1
      clear ht h1
      go_wp2
      go_ret
      exact ⟨by rw [H1.out]; rfl, rfl⟩
end Go.Proofs.Ytjffjoednmlkiaa
