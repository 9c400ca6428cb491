/-
  Nodes: what the laws' own small functions do with them (copy, measure, compare, mark, look whether the marks are held), call by call. Each contract says what it asks.
-/
import Derived.Test.YtakhggnbhjoojaaNda
namespace Go.Proofs.Ytakhggnbhjoojaa
open Go.RowKit
set_option linter.unusedVariables false

theorem infoNd : (Try.prog.info? 84).map (fun i => (i.zero, i.size, i.bytes)) = some (some (.agg #[.slice none 0 0, .bool false]), 2, 32) := by kernel_rfl
theorem ndInfo : (Try.prog.info? 84).map (·.size) = some 2 := by kernel_rfl
theorem res_nd {fn : Func} {x : Tmp} (hf : fn.results = #[.cell x 84]) (tmps : Array Value) (w : World) (g : Nat) (a b : Value) (fr : Nat × Nat) (hp : tmps.getD x undef = .pointer (some ⟨g, 0, none⟩))
    (hg : w.heap[g]? = some (.cells #[a, b] 84 fr)) : (results fn tmps).run Try.prog w = .ok (.agg #[a, b]) w :=
  results_cell_row hf tmps w g _ _ fr _ hp hg Try.underlying84 rfl ndInfo
theorem Hand.threeN (w : World) (c1 c2 c3 : Array Value) (T1 T2 T3 : TypeId) : Hand w (((w.alloc (.cells c1 T1)).alloc (.cells c2 T2)).alloc (.cells c3 T3)) [TBox (w.heap.size + 1 + 1) c3 T3, TBox (w.heap.size + 1) c2 T2, TBox w.heap.size c1 T1] := by
  have h := (((Hand.start w).box c1 T1).box c2 T2).box c3 T3
  simpa only [World.size_alloc] using h
theorem BoxAt.c2 {w : World} {g : Nat} {a b : Value} {T : TypeId} (h : BoxAt w g #[a, b] T) : w.cell? ⟨g, 0, none⟩ = some a ∧ w.cell? ⟨g, 1, none⟩ = some b := ⟨h.cell 0, h.cell 1⟩
theorem Hand.store2 {W w : World} {L : List Tg} {g : Nat} {a b : Value} {T : TypeId} (A : Hand W w L) (i : Nat) (hi : L[i]? = some (TBox g #[a, b] T)) (v0 v1 : Value) :
    Hand W ((w.setCell ⟨g, 0, none⟩ v0).setCell ⟨g, 1, none⟩ v1) (L.set i (TBox g #[v0, v1] T)) := by
  obtain ⟨lo, hi', ⟨b1, b2, b3⟩, _, _, put⟩ := A.open i hi
  exact put _ (TBox g #[v0, v1] T) (TBox.st _ _ _) ⟨b1, b2, by simpa using (b3.set 0 v0).set 1 v1⟩ ((Chg.ofSetCell _ _ _ _ b1 b2).trans (Chg.ofSetCell _ _ _ _ b1 b2))
theorem Hand.wideI {W w : World} {L : List Tg} {v : Value} {xs : List Int} (A : Hand W w L) (i : Nat) (hi : L[i]? = some (TInts v xs)) : Own w W.heap.size v xs := by
  obtain ⟨lo, hi', d, h1, h2, _⟩ := A.open i hi
  exact ownsRow_mono d.1 h1
theorem Rd.slc {w : World} {v : Value} {xs : List Int} (h : Rd w v xs) : ∃ a cap, v = .slice a xs.length cap ∧ xs.length ≤ cap ∧ cap ≤ maxLen := by
  obtain ⟨a, cap, rfl, h1, h2, h3⟩ := h
  exact ⟨a, cap, rfl, h1, h2.1⟩

/-- How many places nodes hold. -/
def totN (xs : List Nd) : Nat := (xs.map fun s => s.1.length).sum
theorem totN_take_succ (m : List Nd) (k : Nat) (h : k < m.length) : totN (m.take (k + 1)) = totN (m.take k) + (m.getD k nd0).1.length := by
  simp only [totN]
  rw [List.take_succ_eq_append_getElem h, List.map_append, List.sum_append, List.getD_eq_getElem?_getD, List.getElem?_eq_getElem h]
  simp
theorem totN_app (a b : List Nd) : totN (a ++ b) = totN a + totN b := by simp [totN]
theorem totN_take_le (m : List Nd) (k : Nat) : totN (m.take k) ≤ totN m := by
  have : totN m = totN (m.take k) + totN (m.drop k) := by rw [← totN_app, List.take_append_drop]
  omega
theorem totN_row_le (m : List Nd) (k : Nat) (h : k < m.length) : totN (m.take k) + (m.getD k nd0).1.length ≤ totN m := by
  rw [← totN_take_succ m k h]; exact totN_take_le m (k + 1)

set_option linter.unusedSimpArgs false in
set_option maxRecDepth 100000 in
set_option maxHeartbeats 1600000 in
theorem toNode_calls (v : Value) (ks : List Int) (z : Bool) (w : World) (h : Rd w v ks) (hkl : ks.length ≤ 1048576) :
    Calls Try.prog 69 #[.agg #[v, .bool z]] w fun e w' => ∃ v', e = .returned (.agg #[v', .bool z]) ∧ Own w' w.heap.size v' ks ∧ Below w.heap.size w w' := by
  have A0 := hide (Hand.threeN w #[v, .bool z] #[.slice none 0 0, .bool false] #[.slice none 0 0, .bool false] 80 84 84)
  have RV := hide h
  clear h
  go_enter Try.func69, Try.ntmps69
  go_wp2_with fail
  refine (toIntS_calls _ ks _ (RV.out.below A0.out.below) hkl).mono ?_
  rintro e w1 ⟨v', rfl, o, q⟩
  obtain ⟨a1, k1, rfl⟩ := row_slice o
  have A1 := hide (A0.out.add q (TInts.st _ _) ⟨o, row_top o⟩)
  clear o q A0
  have xl := A1.out.atBox 1 rfl
  have xr := A1.out.atBox 2 rfl
  have xa := A1.out.atBox 3 rfl
  obtain ⟨c0, c1⟩ := xl.c2
  obtain ⟨d0, d1⟩ := xr.c2
  obtain ⟨e0, e1⟩ := xa.c2
  have f0 := xl.frozen 0
  have f1 := xl.frozen 1
  have g0 := xr.frozen 0
  have g1 := xr.frozen 1
  have A2 := hide (A1.out.store2 1 rfl (.slice a1 ks.length k1) (.bool z))
  have A3 := hide (A2.out.store2 2 rfl (.slice a1 ks.length k1) (.bool z))
  clear xl xr xa A1 A2
  go_wp2
  exact bodyPost_ret (res_nd rfl _ _ (w.heap.size + 1) _ _ (0, 0) rfl (A3.out.atBox 2 rfl)) rfl ⟨_, rfl, A3.out.wideI 0 rfl, A3.out.below⟩

set_option maxRecDepth 100000 in
set_option maxHeartbeats 400000 in
theorem szIntS_is (v : Value) (xs : List Int) (l : Int) (w : World) (h : Rd w v xs) (h0 : 0 ≤ l) (hl : l ≤ 1048576) :
    Calls Try.prog 76 #[v, .int .i64 l] w fun e w' => e = .returned (.int .i64 (if (xs.length : Int) ≤ l then l - xs.length else -1)) ∧ w = w' := by
  obtain ⟨a, cap, rfl, h1, h2, h3⟩ := h
  have hm : xs.length ≤ maxLen := by omega
  unfold maxLen at hm
  clear h3 h2 h1
  by_cases hc : (xs.length : Int) ≤ l
  · rw [if_pos hc]
    have e : ¬ (l - (xs.length : Int) < 0) := by omega
    go_enter Try.func76, Try.ntmps76
    go_wp2
    go_ret
    exact ⟨rfl, rfl⟩
  · rw [if_neg hc]
    have e : l - (xs.length : Int) < 0 := by omega
    go_enter Try.func76, Try.ntmps76
    go_wp2
    go_ret
    exact ⟨rfl, rfl⟩

set_option maxRecDepth 100000 in
set_option maxHeartbeats 800000 in
theorem szNode_is (v : Value) (ks : List Int) (z : Bool) (l : Int) (w : World) (h : Rd w v ks) (h0 : 0 ≤ l) (hl : l ≤ 1048576) :
    Calls Try.prog 65 #[.agg #[v, .bool z], .int .i64 l] w fun e w' => e = .returned (.int .i64 (if (ks.length : Int) ≤ l then l - ks.length else -1)) ∧ Below w.heap.size w w' := by
  have b0 := below_box w (.cells #[v, .bool z] 80)
  have RV := hide (h.below b0)
  have B0 := hide b0
  clear b0 h
  by_cases hd : (ks.length : Int) ≤ l
  · rw [if_pos hd]
    have e2 : ¬ (l - (ks.length : Int) < 0) := by omega
    go_enter Try.func65, Try.ntmps65
    go_wp2_with (go_at_call 76; refine (szIntS_is _ ks _ _ RV.out (by omega) (by omega)).mono ?_; rw [if_pos hd]; rintro e w' ⟨rfl, rfl⟩)
    go_ret
    exact ⟨rfl, B0.out⟩
  · rw [if_neg hd]
    go_enter Try.func65, Try.ntmps65
    go_wp2_with (go_at_call 76; refine (szIntS_is _ ks _ _ RV.out (by omega) (by omega)).mono ?_; rw [if_neg hd]; rintro e w' ⟨rfl, rfl⟩)
    go_ret
    exact ⟨rfl, B0.out⟩

set_option maxRecDepth 100000 in
set_option maxHeartbeats 1600000 in
theorem szNodeS_calls (v : Value) (m : List Nd) (w : World) (h : RdN w v m) :
    Calls Try.prog 14 #[v, .int .i64 1048576] w fun e w' => (∃ r : Int, e = .returned (.int .i64 r) ∧ (r < 0 ∨ (0 ≤ r ∧ r ≤ 1048576 ∧ m.length + totN m ≤ 1048576))) ∧ Below w.heap.size w w' := by
  have R := hide h
  obtain ⟨a, cap, rfl, h1, h2, h3⟩ := h
  have hm : m.length ≤ maxLen := by omega
  unfold maxLen at hm
  clear h3 h2 h1
  by_cases hc : (m.length : Int) ≤ 1048576
  case neg =>
    have e : (1048576 : Int) - (m.length : Int) < 0 := by omega
    go_enter Try.func14, Try.ntmps14
    go_wp2
    go_ret
    exact ⟨⟨_, rfl, .inl (by decide)⟩, Below.refl _ _⟩
  have e : ¬ ((1048576 : Int) - (m.length : Int) < 0) := by omega
  go_enter Try.func14, Try.ntmps14
  go_wp2
  go_loopw [1, 5] (fun vl vi wr => ∃ (k t : Nat), k ≤ m.length ∧ vi = .int .i64 k ∧ t = totN (m.take k) ∧ (m.length : Int) + t ≤ 1048576 ∧ vl = .int .i64 (1048576 - m.length - t) ∧ Below w.heap.size w wr) (fun _ vi _ => m.length - (intOf vi).toNat)
  case atStart => exact ⟨0, 0, Nat.zero_le _, rfl, by simp [totN], by omega, by go_num, Below.refl _ _⟩
  case round =>
    obtain ⟨k, t, hk, rfl, ht, htl, rfl, hb⟩ := hrel
    have Ht := hide ht
    have HB := hide hb
    clear ht hb
    by_cases hlt : k < m.length
    · obtain ⟨b, off, u, ks, z, rfl, hs, hu, c0, c1⟩ := (R.out.below HB.out).at k hlt
      have U := hide hu
      have hs1 := totN_take_succ m k hlt
      have hs2 := totN_row_le m k hlt
      rw [hs, ← Ht.out] at hs1 hs2
      have Hs := hide hs1
      have Hs2 := hide hs2
      have HS := hide hs
      clear hs1 hs2 hu hs
      have hlt' : (k : Int) < (m.length : Int) := by omega
      by_cases hf : (ks.length : Int) ≤ 1048576 - (m.length : Int) - (t : Int)
      · have e2 : ¬ ((1048576 : Int) - (m.length : Int) - (t : Int) - (ks.length : Int) < 0) := by omega
        go_wp2_with (go_at_call 65; refine (szNode_is _ ks z _ _ U.out (by omega) (by omega)).mono ?_; rw [if_pos hf]; rintro e w' ⟨rfl, q⟩; have HB2 := hide (HB.out.trans (q.mono HB.out.size)); clear q)
        exact ⟨⟨k + 1, t + ks.length, by omega, by go_num, Hs.out.symm, by omega, by go_num, HB2.out⟩, by simp [intOf]; omega⟩
      · go_wp2_with (go_at_call 65; refine (szNode_is _ ks z _ _ U.out (by omega) (by omega)).mono ?_; rw [if_neg hf]; rintro e w' ⟨rfl, q⟩; have HB2 := hide (HB.out.trans (q.mono HB.out.size)); clear q)
        go_ret
        exact ⟨⟨_, rfl, .inl (by decide)⟩, HB2.out⟩
    · obtain rfl : k = m.length := by omega
      have h1 := Ht.out
      rw [List.take_length] at h1
      have H1 : Hid (m.length + totN m ≤ 1048576) := by show _ ≤ _; omega
      have H2 : Hid (0 ≤ (1048576 : Int) - m.length - t ∧ (1048576 : Int) - m.length - t ≤ 1048576) := by show _ ∧ _; omega
      clear h1 htl
      go_wp2
      go_ret
      exact ⟨⟨_, rfl, .inr ⟨H2.out.1, H2.out.2, H1.out⟩⟩, HB.out⟩

set_option maxRecDepth 100000 in
set_option maxHeartbeats 800000 in
theorem eqNode_same (v v' : Value) (ks : List Int) (z : Bool) (w : World) (h : Rd w v ks) (h' : Rd w v' ks) :
    Calls Try.prog 74 #[.agg #[v, .bool z], .agg #[v', .bool z]] w fun e w' => e = .returned (.bool true) ∧ Below w.heap.size w w' := by
  have b0 := (below_box w (.cells #[v, .bool z] 84)).trans ((below_box (w.alloc (.cells #[v, .bool z] 84)) (.cells #[v', .bool z] 84)).mono (by simp))
  have R1 := hide (h.below b0)
  have R2 := hide (h'.below b0)
  have B0 := hide b0
  have X1 : Hid (BoxAt ((w.alloc (.cells #[v, .bool z] 84)).alloc (.cells #[v', .bool z] 84)) w.heap.size #[v, .bool z] 84) := BoxAt.below (BoxAt.new w _ _) (below_box _ _)
  have X2 : Hid (BoxAt ((w.alloc (.cells #[v, .bool z] 84)).alloc (.cells #[v', .bool z] 84)) (w.heap.size + 1) #[v', .bool z] 84) := by
    have := BoxAt.new (w.alloc (.cells #[v, .bool z] 84)) #[v', .bool z] 84
    rwa [World.size_alloc] at this
  clear h h' b0
  go_enter Try.func74, Try.ntmps74
  go_wp2_with fail
  refine (eqIntS_same _ _ ks _ R1.out R2.out).mono ?_
  rintro e w1 ⟨rfl, b1⟩
  obtain ⟨c0, c1⟩ := (X1.out.below b1).c2
  obtain ⟨d0, d1⟩ := (X2.out.below b1).c2
  have B1 := hide (B0.out.trans (b1.mono B0.out.size))
  clear b1 B0
  go_wp2
  go_ret
  exact ⟨rfl, B1.out⟩
end Go.Proofs.Ytakhggnbhjoojaa
