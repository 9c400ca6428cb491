/-
  A step handed over, measured, held against another and marked: call by call. Each contract says what it asks.
-/
import Derived.Test.YtnjpkfgljabdaaaDsi
namespace Go.Proofs.Ytnjpkfgljabdaaa
open Go.RowKit
set_option linter.unusedVariables false

theorem stpInfo : (Try.prog.info? 44).map (·.size) = some 4 := by kernel_rfl
theorem res_stp {fn : Func} {x : Tmp} (hf : fn.results = #[.cell x 44]) (tmps : Array Value) (w : World) (g : Nat) (a b c d : Value) (fr : Nat × Nat) (hp : tmps.getD x undef = .pointer (some ⟨g, 0, none⟩))
    (hg : w.heap[g]? = some (.cells #[a, b, c, d] 44 fr)) : (results fn tmps).run Try.prog w = .ok (.agg #[a, b, c, d]) w :=
  results_cell_row hf tmps w g _ _ fr _ hp hg Try.underlying44 rfl stpInfo

set_option maxRecDepth 100000 in
set_option maxHeartbeats 400000 in
theorem szIntS_any (v : Value) (xs : List Int) (l : Int) (w : World) (h : Rd w v xs) (h0 : 0 ≤ l) (hl : l ≤ 1048576) :
    Calls Try.prog 59 #[v, .int .i64 l] w fun e w' => (∃ r : Int, e = .returned (.int .i64 r) ∧ (r < 0 ∨ (0 ≤ r ∧ r ≤ 1048576 ∧ xs.length ≤ 1048576))) ∧ w = w' := by
  obtain ⟨a, cap, rfl, h1, h2, h3⟩ := h
  have hm : xs.length ≤ maxLen := by omega
  unfold maxLen at hm
  clear h3 h2 h1
  by_cases hc : (xs.length : Int) ≤ l
  · have e : ¬ (l - (xs.length : Int) < 0) := by omega
    go_enter Try.func59, Try.ntmps59
    go_wp2
    go_ret
    exact ⟨⟨_, rfl, .inr ⟨by omega, by omega, by omega⟩⟩, rfl⟩
  · have e : l - (xs.length : Int) < 0 := by omega
    go_enter Try.func59, Try.ntmps59
    go_wp2
    go_ret
    exact ⟨⟨_, rfl, .inl (by decide)⟩, rfl⟩

set_option maxRecDepth 100000 in
set_option maxHeartbeats 800000 in
theorem szDiskStep_calls (K A : Int) (T : ByteArray) (v : Value) (ks : List Int) (l : Int) (w : World) (hT : T.size ≤ maxLen) (h : Rd w v ks) (h0 : 0 ≤ l) (hl : l ≤ 1048576) :
    Calls Try.prog 21 #[.agg #[.int .i64 K, .int .i64 A, .string T, v], .int .i64 l] w fun e w' => (∃ r : Int, e = .returned (.int .i64 r) ∧ (r < 0 ∨ (0 ≤ r ∧ r ≤ 1048576 ∧ T.size ≤ 1048576 ∧ ks.length ≤ 1048576))) ∧ Below w.heap.size w w' := by
  have b0 := below_box w (.cells #[.int .i64 K, .int .i64 A, .string T, v] 41)
  have RV := hide (h.below b0)
  have B0 := hide b0
  clear b0 h
  unfold maxLen at hT
  by_cases hc : (T.size : Int) ≤ l
  case neg =>
    have e : l - (T.size : Int) < 0 := by omega
    go_enter Try.func21, Try.ntmps21
    go_wp2
    go_ret
    exact ⟨⟨_, rfl, .inl (by decide)⟩, B0.out⟩
  have e : ¬ (l - (T.size : Int) < 0) := by omega
  go_enter Try.func21, Try.ntmps21
  go_wp2_with fail
  refine (szIntS_any _ ks _ _ RV.out (by omega) (by omega)).mono ?_
  rintro e w1 ⟨⟨r, rfl, hr⟩, rfl⟩
  by_cases r0 : r < 0
  · go_wp2
    go_ret
    exact ⟨⟨-1, rfl, .inl (by decide)⟩, B0.out⟩
  have hrP := hide (hr.resolve_left r0)
  clear hr
  go_wp2
  go_ret
  exact ⟨⟨r, rfl, .inr ⟨hrP.out.1, hrP.out.2.1, by omega, hrP.out.2.2⟩⟩, B0.out⟩

theorem Hand.store4 {W w : World} {L : List Tg} {g : Nat} {a b c d : Value} {T : TypeId} (A : Hand W w L) (i : Nat) (hi : L[i]? = some (TBox g #[a, b, c, d] T)) (v0 v1 v2 v3 : Value) :
    Hand W ((((w.setCell ⟨g, 0, none⟩ v0).setCell ⟨g, 1, none⟩ v1).setCell ⟨g, 2, none⟩ v2).setCell ⟨g, 3, none⟩ v3) (L.set i (TBox g #[v0, v1, v2, v3] T)) := by
  obtain ⟨lo, hi', ⟨b1, b2, b3⟩, _, _, put⟩ := A.open i hi
  exact put _ (TBox g #[v0, v1, v2, v3] T) (TBox.st _ _ _) ⟨b1, b2, b3.store4 v0 v1 v2 v3⟩ (Chg.store4 w g v0 v1 v2 v3 b1 b2)
theorem Hand.last4 {W w : World} {L : List Tg} {g : Nat} {a b c d : Value} {T : TypeId} (A : Hand W w L) (i : Nat) (hi : L[i]? = some (TBox g #[a, b, c, d] T)) (v : Value) :
    Hand W (w.setCell ⟨g, 3, none⟩ v) (L.set i (TBox g #[a, b, c, v] T)) := by
  obtain ⟨lo, hi', ⟨b1, b2, b3⟩, _, _, put⟩ := A.open i hi
  exact put _ (TBox g #[a, b, c, v] T) (TBox.st _ _ _) ⟨b1, b2, by simpa using b3.set 3 v⟩ (Chg.ofSetCell w g 3 v b1 b2)
theorem Hand.wideI {W w : World} {L : List Tg} {v : Value} {xs : List Int} (A : Hand W w L) (i : Nat) (hi : L[i]? = some (TInts v xs)) : Own w W.heap.size v xs := by
  obtain ⟨lo, hi', d, h1, h2, _⟩ := A.open i hi
  exact ownsRow_mono d.1 h1

set_option linter.unusedSimpArgs false in
set_option maxRecDepth 100000 in
set_option maxHeartbeats 3200000 in
theorem toDiskStep_calls (K A : Int) (T : ByteArray) (v : Value) (ks : List Int) (w : World) (h : Rd w v ks) (hkl : ks.length ≤ 1048576) :
    Calls Try.prog 23 #[.agg #[.int .i64 K, .int .i64 A, .string T, v]] w fun e w' => ∃ v', e = .returned (.agg #[.int .i64 K, .int .i64 A, .string T, v']) ∧ Own w' w.heap.size v' ks ∧ Below w.heap.size w w' := by
  have A0 := hide (Hand.three w #[.int .i64 K, .int .i64 A, .string T, v] #[.int .i64 0, .int .i64 0, .string ⟨#[]⟩, .slice none 0 0] #[.int .i64 K, .int .i64 A, .string T, .slice none 0 0] 41 44 44)
  have RV := hide h
  clear h
  go_enter Try.func23, Try.ntmps23
  go_wp2_with fail
  refine (toIntS_calls _ ks _ (RV.out.below A0.out.below) hkl).mono ?_
  rintro e w1 ⟨v', rfl, o, q⟩
  obtain ⟨a1, k1, rfl⟩ := row_slice o
  have A1 := hide (A0.out.add q (TInts.st _ _) ⟨o, row_top o⟩)
  clear o q A0
  have xl := A1.out.atBox 1 rfl
  have xr := A1.out.atBox 2 rfl
  obtain ⟨c0, c1, c2, c3⟩ := xl.c4
  have f3 := xl.frozen 3
  obtain ⟨d0, d1, d2, d3⟩ := xr.c4
  have g0 := xr.frozen 0
  have g1 := xr.frozen 1
  have g2 := xr.frozen 2
  have g3 := xr.frozen 3
  have A2 := hide (A1.out.last4 1 rfl (.slice a1 ks.length k1))
  have A3 := hide (A2.out.store4 2 rfl (.int .i64 K) (.int .i64 A) (.string T) (.slice a1 ks.length k1))
  clear xl xr A1 A2
  go_wp2
  exact bodyPost_ret (res_stp rfl _ _ (w.heap.size + 1) _ _ _ _ (0, 0) rfl (A3.out.atBox 2 rfl)) rfl ⟨_, rfl, A3.out.wideI 0 rfl, A3.out.below⟩

set_option maxRecDepth 100000 in
set_option maxHeartbeats 800000 in
theorem eqDiskStep_same (K A : Int) (T : ByteArray) (v v' : Value) (ks : List Int) (w : World) (h : Rd w v ks) (h' : Rd w v' ks) :
    Calls Try.prog 25 #[.agg #[.int .i64 K, .int .i64 A, .string T, v], .agg #[.int .i64 K, .int .i64 A, .string T, v']] w fun e w' => e = .returned (.bool true) ∧ Below w.heap.size w w' := by
  have b0 := (below_box w (.cells #[.int .i64 K, .int .i64 A, .string T, v] 44)).trans ((below_box (w.alloc (.cells #[.int .i64 K, .int .i64 A, .string T, v] 44)) (.cells #[.int .i64 K, .int .i64 A, .string T, v'] 44)).mono (by simp))
  have R1 := hide (h.below b0)
  have R2 := hide (h'.below b0)
  have B0 := hide b0
  clear h h' b0
  go_enter Try.func25, Try.ntmps25
  go_wp2_with fail
  refine (eqIntS_same _ _ ks _ R1.out R2.out).mono ?_
  rintro e w1 ⟨rfl, b1⟩
  have B1 := hide (B0.out.trans (b1.mono B0.out.size))
  clear b1 B0
  go_wp2
  go_ret
  exact ⟨rfl, B1.out⟩

set_option maxRecDepth 100000 in
set_option maxHeartbeats 800000 in
theorem markDiskStep_calls (K A : Int) (T : ByteArray) (v : Value) (ks : List Int) (k : Int) (lo hi : Nat) (w : World) (h : Own w lo v ks) (ht : ∀ j, v.ownBlock = some j → j < hi) (hhi : hi ≤ w.heap.size) (hk0 : 0 ≤ k) (hk : k ≤ 1099511627776) (hn : ks.length ≤ 1048576) :
    Calls Try.prog 26 #[.agg #[.int .i64 K, .int .i64 A, .string T, v], .int .i64 k] w fun e w' => e = .returned (.int .i64 (k + ks.length)) ∧ Own w' lo v (marks k ks.length) ∧ Chg lo hi w w' := by
  have b0 := below_box w (.cells #[.int .i64 K, .int .i64 A, .string T, v] 44)
  have O0 := hide (ownsRow_below h b0)
  have C0 : Hid (Chg lo hi w (w.alloc (.cells #[.int .i64 K, .int .i64 A, .string T, v] 44))) := Chg.ofAlloc w _
  have HT := hide ht
  have HL := hide (row_low h)
  clear b0 h ht
  go_enter Try.func26, Try.ntmps26
  go_wp2_with fail
  refine (markIntS_calls _ ks k lo _ O0.out hk0 hk hn).mono ?_
  rintro e w1 ⟨rfl, o4, g4⟩
  have OO := hide o4
  have CC := hide (C0.out.trans (Chg.ofGrown g4 (fun j hj => ⟨HL.out j hj, HT.out j hj⟩)))
  clear o4 g4
  go_wp2
  go_ret
  exact ⟨rfl, OO.out, CC.out⟩
end Go.Proofs.Ytnjpkfgljabdaaa
