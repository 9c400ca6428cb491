/-
  Rows taken out of a matrix by their numbers: the program's function and its model's, call by call. No condition.
-/
import Derived.Test.YtoipcoidcaijjaaDoorMake
namespace Go.Proofs.YtoipcoidcaijjaaDoor
open Go.RowKit

set_option maxRecDepth 100000 in
set_option maxHeartbeats 800000 in
theorem copyList_calls (v : Value) (xs : List Int) (w : World) (h : Rd w v xs) (hn : xs.length ≤ 1048576) :
    Calls Tryd.prog 115 #[v] w fun e w' => ∃ v', e = .returned v' ∧ Own w' w.heap.size v' xs ∧ Below w.heap.size w w' := by
  have R := hide h
  obtain ⟨a, cap, rfl, h1, h2, h3⟩ := h
  clear h3 h2 h1
  go_enter Tryd.func115, Tryd.ntmps115
  go_wp2_with (at_make; refine wpList_make_ints rfl _ _ rfl w.heap.size _ _ xs.length rfl rfl (by omega) (by omega) (by omega) (Nat.le_refl _) ?_)
  intro w0 hown0 hg0
  have hb0 : Below w.heap.size w w0 := (Below.refl _ _).grown hg0 (Nat.le_refl _) (fun k h => by cases h)
  have O0 := hide hown0
  have B0 := hide hb0
  clear hown0 hg0 hb0
  go_wp2_with (refine wpList_copy_fresh rfl _ _ rfl w.heap.size w.heap.size xs.length (List.replicate xs.length 0) rfl O0.out _ rfl xs (R.out.below B0.out) (Nat.le_refl _) (Nat.le_refl _) (by unfold maxLen; omega) w.heap.size w B0.out (Nat.le_refl _) ?_)
  intro w1 ho hb _
  have O1 := hide ho
  have B1 := hide hb
  clear ho hb
  go_wp2
  go_ret
  exact ⟨_, rfl, by simpa using O1.out, B1.out⟩

theorem rowOk_dec (n : Nat) (z : Int) : decide (0 ≤ z ∧ z < (n : Int)) = true ↔ 0 ≤ z ∧ z < (n : Int) := by simp
set_option maxRecDepth 100000 in
theorem isRow_calls (z : Int) (n cap g : Nat) (a : Option Addr) (w : World) (hg : w.cell? ⟨g, 0, none⟩ = some (.slice a n cap)) :
    Calls Tryd.prog 110 #[.int .i64 z, .pointer (some ⟨g, 0, none⟩)] w fun e w' => e = .returned (.bool ((fun z : Int => decide (0 ≤ z ∧ z < (n : Int))) z)) ∧ w = w' := by
  by_cases h : 0 ≤ z
  · by_cases h2 : z < (n : Int)
    · simp only [decide_eq_true (p := 0 ≤ z ∧ z < (n : Int)) ⟨h, h2⟩]
      go_enter Tryd.func110, Tryd.ntmps110
      go_wp2
      go_ret
      exact ⟨rfl, rfl⟩
    · simp only [decide_eq_false (p := 0 ≤ z ∧ z < (n : Int)) (fun e => h2 e.2)]
      go_enter Tryd.func110, Tryd.ntmps110
      go_wp2
      go_ret
      exact ⟨rfl, rfl⟩
  · simp only [decide_eq_false (p := 0 ≤ z ∧ z < (n : Int)) (fun e => h e.1)]
    go_enter Tryd.func110, Tryd.ntmps110
    go_wp2
    go_ret
    exact ⟨rfl, rfl⟩
set_option maxRecDepth 100000 in
set_option maxHeartbeats 800000 in
theorem allRows_calls (v : Value) (m : List Int) (n c g : Nat) (ad : Option Addr) (w : World) (h : Rd w v m) (hg : w.cell? ⟨g, 0, none⟩ = some (.slice ad n c)) :
    Calls Tryd.prog 112 #[v, .func (.func 110) #[] #[.pointer (some ⟨g, 0, none⟩)]] w fun e w' => e = .returned (.bool (m.all (fun z : Int => decide (0 ≤ z ∧ z < (n : Int))))) ∧ w = w' := by
  have R := hide h
  obtain ⟨a, cap, rfl, h1, h2, h3⟩ := h
  have hm : m.length ≤ maxLen := by omega
  unfold maxLen at hm
  obtain ⟨p, hp⟩ : ∃ p, p = (fun z : Int => decide (0 ≤ z ∧ z < (n : Int))) := ⟨_, rfl⟩
  rw [← hp]
  have HP := hide hp
  clear h3 h2 h1 hp
  go_enter Tryd.func112, Tryd.ntmps112
  go_wp2
  go_loop [9] (fun vi => ∃ k : Nat, k ≤ m.length ∧ vi = .int .i64 k ∧ ∀ i, i < k → p (m.getD i 0) = true) (fun vi => m.length - (intOf vi).toNat)
  case atStart => exact ⟨0, Nat.zero_le _, rfl, fun i hi => by omega⟩
  case round =>
    obtain ⟨k, hk, rfl, hall⟩ := hrel
    have A := hide hall
    clear hall
    by_cases hlt : k < m.length
    · have hlt' : (k : Int) < (m.length : Int) := by omega
      obtain ⟨b, off, u, rfl, hc1, hu⟩ := R.out.row k hlt
      obtain ⟨r, hr⟩ : ∃ r, r = m.getD k 0 := ⟨_, rfl⟩
      rw [← hr] at hu
      subst hu
      have Hr := hide hr
      clear hr
      obtain ⟨q, hq⟩ : ∃ q, q = p r := ⟨_, rfl⟩
      have Q := hide hq
      have HC : Hid (Calls Tryd.prog 110 #[.int .i64 r, .pointer (some ⟨g, 0, none⟩)] w fun e w' => e = .returned (.bool q) ∧ w = w') := by
        rw [hq, HP.out]
        exact isRow_calls r n c g ad w hg
      cases q with
      | true =>
        clear hq
        go_wp2_with (go_at_call 110; refine HC.out.mono ?_; rintro e w' ⟨rfl, rfl⟩)
        go_round
        case rel =>
          refine ⟨k + 1, by omega, by go_num, fun i hi => ?_⟩
          by_cases e : i = k
          · subst e; rw [← Hr.out, ← Q.out]
          · exact A.out i (by omega)
        case measure => simp [intOf]; omega
      | false =>
        clear hq
        go_wp2_with (go_at_call 110; refine HC.out.mono ?_; rintro e w' ⟨rfl, rfl⟩)
        go_ret
        exact ⟨Gf.ret_bool (all_no hlt (by rw [← Hr.out, ← Q.out])).symm, rfl⟩
    · obtain rfl : k = m.length := by omega
      go_wp2
      go_ret
      exact ⟨Gf.ret_bool (all_yes A.out).symm, rfl⟩

/-- The rows with these numbers. -/
def pickR (m : List (List Int)) (ks : List Int) : List (List Int) := ks.map fun k => m.getD k.toNat []
theorem pickR_length (m : List (List Int)) (ks : List Int) : (pickR m ks).length = ks.length := by simp [pickR]
theorem pickR_get (m : List (List Int)) (ks : List Int) (i : Nat) (h : i < ks.length) : (pickR m ks).getD i [] = m.getD (ks.getD i 0).toNat [] := by
  simp [pickR, List.getD_eq_getElem?_getD, h]

set_option maxRecDepth 100000 in
set_option maxHeartbeats 800000 in
theorem rowCopy_calls (z : Int) (v : Value) (m : List (List Int)) (g : Nat) (w : World) (h : RdM w v m) (hg : w.cell? ⟨g, 0, none⟩ = some v) (h0 : 0 ≤ z) (h1 : z < (m.length : Int)) (hl : (m.getD z.toNat []).length ≤ 1048576) :
    Calls Tryd.prog 114 #[.int .i64 z, .pointer (some ⟨g, 0, none⟩)] w fun e w' => ∃ v', e = .returned v' ∧ Own w' w.heap.size v' (m.getD z.toNat []) ∧ Below w.heap.size w w' := by
  have R := hide h
  obtain ⟨a, cap, rfl, _⟩ := h
  obtain ⟨k, rfl⟩ := Int.eq_ofNat_of_zero_le h0
  simp only [Int.toNat_natCast] at hl ⊢
  obtain ⟨b, off, u, rfl, hc1, hu⟩ := R.out.row k (by omega)
  have U := hide hu
  clear hu
  go_enter Tryd.func114, Tryd.ntmps114
  go_wp2_with fail
  refine (copyList_calls _ _ _ U.out hl).mono ?_
  rintro e w1 ⟨v1, rfl, ho, hb⟩
  have O := hide ho
  have B := hide hb
  clear ho hb
  go_wp2
  go_ret
  exact ⟨_, rfl, O.out, B.out⟩

set_option maxRecDepth 100000 in
set_option maxHeartbeats 800000 in
theorem eachRow_calls (kv v : Value) (ks : List Int) (m : List (List Int)) (g : Nat) (w : World) (hk : Rd w kv ks) (h : RdM w v m) (hgc : w.cell? ⟨g, 0, none⟩ = some v) (hgl : g < w.heap.size) (hn : ks.length ≤ 1048576)
    (hr : ∀ i, i < ks.length → 0 ≤ ks.getD i 0 ∧ ks.getD i 0 < (m.length : Int)) (hl : ∀ i, (m.getD i []).length ≤ 1048576) :
    Calls Tryd.prog 113 #[kv, .func (.func 114) #[] #[.pointer (some ⟨g, 0, none⟩)]] w fun e w' => ∃ v', e = .returned v' ∧ Mat w' w.heap.size w'.heap.size v' (pickR m ks) ∧ Below w.heap.size w w' := by
  have R := hide h
  have KR := hide hk
  obtain ⟨a, cap, rfl, _⟩ := hk
  have HR := hide hr
  have HL := hide hl
  clear hr hl
  obtain ⟨MM, hM⟩ : ∃ M, M = pickR m ks := ⟨_, rfl⟩
  rw [← hM]
  have hMl : MM.length = ks.length := by rw [hM, pickR_length]
  have hMg : ∀ k, k < ks.length → MM.getD k [] = m.getD (ks.getD k 0).toNat [] := fun k hk => by rw [hM, pickR_get _ _ _ hk]
  have ML := hide hMl
  have MG := hide hMg
  have GC := hide hgc
  clear hM hMl hMg hgc
  go_enter Tryd.func113, Tryd.ntmps113
  go_wp2_with (at_make; refine wpList_make_rows rfl _ _ rfl _ _ ks.length rfl rfl (by omega) (by omega) hn ?_)
  intro w0 hm0 hg0
  have M0 := hide hm0
  have G0 := hide hg0
  clear hm0 hg0
  go_wp2
  go_loopw [6, 7, 13] (fun _ _ vi wr => ∃ (k : Nat) (vs : List Value), k ≤ ks.length ∧ vi = .int .i64 k ∧ MatV wr w.heap.size wr.heap.size (.slice (some ⟨w.heap.size, 0, none⟩) ks.length ks.length) vs (toTo MM k) ∧ Below w.heap.size w wr) (fun _ _ vi _ => ks.length - (intOf vi).toNat)
  case atStart =>
    refine ⟨0, List.replicate ks.length nilRow, Nat.zero_le _, rfl, ?_, (Below.refl _ _).grown G0.out (Nat.le_refl _) (fun k h => by cases h)⟩
    rw [toTo_zero, ML.out]
    exact M0.out
  case round =>
    obtain ⟨k, vs, hk, rfl, hm, hb⟩ := hrel
    have M := hide hm
    have B := hide hb
    clear hm hb
    by_cases hlt : k < ks.length
    · have hlt' : (k : Int) < (ks.length : Int) := by omega
      obtain ⟨b, off, u, rfl, hc1, hu⟩ := (KR.out.below B.out).row k hlt
      obtain ⟨z, hz⟩ : ∃ z, z = ks.getD k 0 := ⟨_, rfl⟩
      rw [← hz] at hu
      subst hu
      have Z := hide hz
      have hzr := HR.out k hlt
      rw [← hz] at hzr
      clear hz
      obtain ⟨hz0, hz1⟩ := hzr
      have hgc2 : wr.cell? ⟨g, 0, none⟩ = some v := (B.out.cell (p := ⟨g, 0, none⟩) hgl).trans GC.out
      have GC2 := hide hgc2
      clear hgc2
      go_wp2_with fail
      refine (rowCopy_calls z v m g _ (R.out.below B.out) GC2.out hz0 hz1 (HL.out _)).mono ?_
      rintro e w1 ⟨x, rfl, hx, hb1⟩
      obtain ⟨xa, xn, xc, rfl⟩ := hx.shape
      have hkl : k < (toTo MM k).length := by rw [toTo_length _ k (by rw [ML.out]; exact hk), ML.out]; exact hlt
      have hM1 := M.out.below hb1
      have hc2 : w1.frozen? ⟨w.heap.size, k, none⟩ = false := World.ownsRow.frozenAt (by have := hM1.head; rwa [← hM1.lenEq] at this) k
      have hc3 := hM1.cell k hkl
      have L := hide (M.out.lay k hkl hb1 _ _ hx M.out.sizeLo (Nat.le_refl _))
      have B1 := hide hb1
      clear hM1 hx hb1
      go_wp2
      go_roundw
      case rel =>
        refine ⟨k + 1, vs.set k (.slice xa xn xc), by omega, by go_num, ?_, ?_⟩
        · have := L.out.1
          rw [Z.out, ← MG.out k hlt, toTo_step _ k (by rw [ML.out]; exact hlt)] at this
          exact this
        · exact (B.out.trans (B1.out.mono B.out.size)).setCell (Nat.le_refl _) _
      case measure => simp [intOf]; omega
    · obtain rfl : k = ks.length := by omega
      go_wp2
      go_ret
      have hm := M.out
      have e := toTo_end MM
      rw [ML.out] at e
      rw [e] at hm
      exact ⟨_, rfl, ⟨_, hm⟩, B.out⟩

set_option maxRecDepth 100000 in
set_option maxHeartbeats 800000 in
theorem l2Rows_calls (kv v : Value) (ks : List Int) (m : List (List Int)) (w : World) (hk : Rd w kv ks) (h : RdM w v m) (hn : ks.length ≤ 1048576)
    (hr : ∀ i, i < ks.length → 0 ≤ ks.getD i 0 ∧ ks.getD i 0 < (m.length : Int)) (hl : ∀ i, (m.getD i []).length ≤ 1048576) :
    Calls Tryd.prog 117 #[v, kv] w fun e w' => ∃ v', e = .returned v' ∧ Mat w' w.heap.size w'.heap.size v' (pickR m ks) ∧ Below w.heap.size w w' := by
  have R := hide h
  have KR := hide hk
  obtain ⟨a, cap, rfl, _⟩ := hk
  obtain ⟨ma, mcap, rfl, _⟩ := h
  have HR := hide hr
  have HL := hide hl
  clear hr hl
  obtain ⟨MM, hM⟩ : ∃ M, M = pickR m ks := ⟨_, rfl⟩
  rw [← hM]
  have hMl : MM.length = ks.length := by rw [hM, pickR_length]
  have hMg : ∀ k, k < ks.length → MM.getD k [] = m.getD (ks.getD k 0).toNat [] := fun k hk => by rw [hM, pickR_get _ _ _ hk]
  have ML := hide hMl
  have MG := hide hMg
  clear hM hMl hMg
  go_enter Tryd.func117, Tryd.ntmps117
  go_wp2
  go_loopw [5, 7, 10] (fun vo _ vi wr => ∃ (k : Nat) (vs : List Value), k ≤ ks.length ∧ vi = .int .i64 k ∧ MatV wr w.heap.size wr.heap.size vo vs (MM.take k) ∧ Below w.heap.size w wr) (fun _ _ vi _ => ks.length - (intOf vi).toNat)
  case atStart =>
    obtain ⟨vs, hv⟩ := Mat.nil w w.heap.size w.heap.size
    exact ⟨0, vs, Nat.zero_le _, rfl, hv, Below.refl _ _⟩
  case round =>
    obtain ⟨k, vs, hk, rfl, hm, hb⟩ := hrel
    have M := hide hm
    have B := hide hb
    clear hm hb
    by_cases hlt : k < ks.length
    · have hlt' : (k : Int) < (ks.length : Int) := by omega
      obtain ⟨b, off, u, rfl, hc1, hu⟩ := (KR.out.below B.out).row k hlt
      obtain ⟨z, hz⟩ : ∃ z, z = ks.getD k 0 := ⟨_, rfl⟩
      rw [← hz] at hu
      subst hu
      have hzr := HR.out k hlt
      have hmg := MG.out k hlt
      rw [← hz] at hzr hmg
      clear hz
      obtain ⟨hz0, hz1⟩ := hzr
      obtain ⟨j, rfl⟩ := Int.eq_ofNat_of_zero_le hz0
      rw [Int.toNat_natCast] at hmg
      obtain ⟨b2, off2, u2, rfl, hc2, hu2⟩ := (R.out.below (B.out.alloc B.out.size (.cells #[] 3))).row j (by omega)
      obtain ⟨r, hrr⟩ : ∃ r, r = m.getD j [] := ⟨_, rfl⟩
      rw [← hrr] at hu2 hmg
      have hrl : r.length ≤ 1048576 := by rw [hrr]; exact HL.out j
      have MG' := hide hmg
      clear hrr hmg
      have RR : Hid (Rd (wr.alloc (.cells #[] 3)) u2 r) := hu2
      have OO : Hid (Own (wr.alloc (.cells #[] 3)) wr.heap.size (.slice (some ⟨wr.heap.size, 0, none⟩) 0 0) []) :=
        World.ownsRow_lit wr #[] 0 (Nat.le_refl _) (Nat.zero_le _) (by rfl)
      clear hu2
      go_wp2_with (at_builtin; refine wpList_append_rd rfl (.tmp 15) (.tmp 19) rfl wr.heap.size _ 0 [] r rfl OO.out _ rfl RR.out (by omega) (by simp) ?_)
      intro v1 w1 ho1 hg1
      have hb1 : Below wr.heap.size wr w1 := ((Below.refl _ _).alloc (Nat.le_refl _) _).grown hg1 (by simp) (fun k hk => (OO.out.lt k hk).1)
      obtain ⟨xa, xn, xc, rfl⟩ := ho1.shape
      have ho1' : Own w1 wr.heap.size (.slice xa xn xc) r := by simpa using ho1
      have O1 := hide ho1'
      have B1 := hide hb1
      clear ho1 ho1' hg1 hb1
      go_wp2_with (at_builtin; refine wpList_append_row rfl (.tmp 14) (.tmp 21) rfl w.heap.size wr.heap.size _ vs (MM.take k) rfl M.out (B1.out.alloc B1.out.size _) _ r (O1.out.below ((Below.refl _ _).alloc (Nat.le_refl _) _)) (Nat.le_refl _) B.out.size _ rfl (World.cell?_alloc_at _ _ _ _ (by simp)) (by simp; omega) ?_)
      intro v2 w2 hM2 hB2
      have M2 := hide hM2
      have B3 := hide hB2
      clear hM2 hB2
      go_wp2
      go_roundw
      case rel =>
        refine ⟨k + 1, vs ++ [.slice xa xn xc], by omega, by go_num, ?_, B.out.trans B3.out⟩
        have := M2.out
        have e : MM.take k ++ [r] = MM.take (k + 1) := by
          have hl : k < MM.length := by rw [ML.out]; exact hlt
          rw [List.take_succ_eq_append_getElem hl]
          have := MG'.out
          rw [List.getD_eq_getElem?_getD, List.getElem?_eq_getElem hl, Option.getD_some] at this
          rw [this]
        rw [e] at this
        exact this
      case measure => simp [intOf]; omega
    · obtain rfl : k = ks.length := by omega
      go_wp2
      go_ret
      have hm := M.out
      rw [List.take_of_length_le (by rw [ML.out]; exact Nat.le_refl _)] at hm
      exact ⟨_, rfl, ⟨_, hm⟩, B.out⟩

def rowsOk (m : List (List Int)) (ks : List Int) : Bool := goodM m && (decide (1 ≤ (ks.length : Int) ∧ (ks.length : Int) ≤ 8) && ks.all fun z : Int => decide (0 ≤ z ∧ z < (m.length : Int)))
def rowsR (m : List (List Int)) (ks : List Int) : List (List Int) × Bool := if rowsOk m ks = true then (pickR m ks, true) else ([], false)
theorem goodM_len8 {m : List (List Int)} (h : goodM m = true) (i : Nat) : (m.getD i []).length ≤ 8 := by
  obtain ⟨h1, h2, h3, h4, h5⟩ := goodM_rows h
  by_cases hi : i < m.length
  · have := (h5 i hi).1; omega
  · rw [List.getD_eq_getElem?_getD, List.getElem?_eq_none (by omega)]; simp
theorem rowsOk_facts {m : List (List Int)} {ks : List Int} (h : rowsOk m ks = true) : goodM m = true ∧ 1 ≤ ks.length ∧ ks.length ≤ 8 ∧ ∀ i, i < ks.length → 0 ≤ ks.getD i 0 ∧ ks.getD i 0 < (m.length : Int) := by
  simp only [rowsOk, Bool.and_eq_true, decide_eq_true_eq] at h
  obtain ⟨h1, h2, h3⟩ := h
  refine ⟨h1, by omega, by omega, fun i hi => ?_⟩
  have := all_at (d := 0) h3 i hi
  simpa using this

set_option maxRecDepth 100000 in
set_option maxHeartbeats 1600000 in
theorem rowsOf_calls (v kv : Value) (m : List (List Int)) (ks : List Int) (w : World) (h : RdM w v m) (hk : Rd w kv ks) :
    Calls Tryd.prog 40 #[v, kv] w fun e w' => ∃ v', e = .returned (.tuple #[v', .bool (rowsR m ks).2]) ∧ Mat w' w.heap.size w'.heap.size v' (rowsR m ks).1 ∧ Below w.heap.size w w' := by
  have R := hide h
  have KR := hide hk
  obtain ⟨a, cap, rfl, _⟩ := h
  obtain ⟨ka, kcap, rfl, _⟩ := hk
  obtain ⟨b1, hb1⟩ : ∃ b, b = goodM m := ⟨_, rfl⟩
  obtain ⟨b2, hb2⟩ : ∃ b, b = decide (1 ≤ (ks.length : Int) ∧ (ks.length : Int) ≤ 8) := ⟨_, rfl⟩
  obtain ⟨b3, hb3⟩ : ∃ b, b = ks.all fun z : Int => decide (0 ≤ z ∧ z < (m.length : Int)) := ⟨_, rfl⟩
  have hok : rowsOk m ks = (b1 && (b2 && b3)) := by rw [hb1, hb2, hb3]; rfl
  have HO := hide hok
  have B1 := hide hb1
  have B2 := hide hb2
  have B3 := hide hb3
  clear hb1 hb2 hb3 hok
  have W0 : Hid (Below w.heap.size w (w.alloc (.cells #[.slice a m.length cap] 38))) := (Below.refl _ _).alloc (Nat.le_refl _) _
  have hc0 : (w.alloc (.cells #[.slice a m.length cap] 38)).cell? ⟨w.heap.size, 0, none⟩ = some (.slice a m.length cap) := World.cell?_alloc_at _ _ _ _ rfl
  have C0 := hide hc0
  have S0 : Hid (w.heap.size < (w.alloc (.cells #[.slice a m.length cap] 38)).heap.size) := by show w.heap.size < _; simp
  go_enter Tryd.func40, Tryd.ntmps40
  go_wp2_with fail
  refine (goodMatrix_calls _ m _ (R.out.below W0.out)).mono ?_
  rw [← B1.out]
  rintro e w1 ⟨rfl, hbw1⟩
  have hc1 : w1.cell? ⟨w.heap.size, 0, none⟩ = some (.slice a m.length cap) := (hbw1.cell (p := ⟨w.heap.size, 0, none⟩) S0.out).trans C0.out
  have W1 := hide (W0.out.trans (hbw1.mono W0.out.size))
  have C1 := hide hc1
  have S1 : Hid (w.heap.size < w1.heap.size) := Nat.lt_of_lt_of_le S0.out hbw1.size
  clear hbw1 hc0 C0 S0 W0
  have no : rowsOk m ks = false → rowsR m ks = ([], false) := by
    intro h
    simp [rowsR, h]
  have NO := hide no
  clear no
  cases b1 with
  | false =>
    go_wp2
    go_ret2
    rw [NO.out (by simpa using HO.out)]
    exact ⟨_, rfl, Mat.nil _ _ _, W1.out⟩
  | true =>
    go_wp2_with fail
    refine (isSide_calls _ _).mono ?_
    rw [← B2.out]
    rintro e w' ⟨rfl, rfl⟩
    cases b2 with
    | false =>
      go_wp2
      go_ret2
      rw [NO.out (by simpa using HO.out)]
      exact ⟨_, rfl, Mat.nil _ _ _, W1.out⟩
    | true =>
      go_wp2_with fail
      refine (allRows_calls _ ks m.length cap w.heap.size a _ (KR.out.below W1.out) C1.out).mono ?_
      rw [← B3.out]
      rintro e w' ⟨rfl, rfl⟩
      cases b3 with
      | false =>
        go_wp2
        go_ret2
        rw [NO.out (by simpa using HO.out)]
        exact ⟨_, rfl, Mat.nil _ _ _, W1.out⟩
      | true =>
        have hokt : rowsOk m ks = true := by simpa using HO.out
        have FF := hide (rowsOk_facts hokt)
        have e : rowsR m ks = (pickR m ks, true) := by simp [rowsR, hokt]
        have E := hide e
        have hn : ks.length ≤ 8 := FF.out.2.2.1
        clear hokt e NO
        go_wp2_with fail
        refine (eachRow_calls _ _ ks m w.heap.size _ (KR.out.below W1.out) (R.out.below W1.out) C1.out S1.out (by omega) FF.out.2.2.2 (fun i => by have := goodM_len8 FF.out.1 i; omega)).mono ?_
        rintro e w2 ⟨v2, rfl, hm, hb⟩
        have M := hide hm
        have B := hide hb
        clear hm hb
        go_wp2
        go_ret2
        rw [E.out]
        exact ⟨_, rfl, M.out.wider W1.out.size (Nat.le_refl _), W1.out.trans (B.out.mono W1.out.size)⟩

set_option maxRecDepth 100000 in
set_option maxHeartbeats 1600000 in
theorem sRowsOf_calls (v kv : Value) (m : List (List Int)) (ks : List Int) (w : World) (h : RdM w v m) (hk : Rd w kv ks) :
    Calls Tryd.prog 41 #[v, kv] w fun e w' => ∃ v', e = .returned (.tuple #[v', .bool (rowsR m ks).2]) ∧ Mat w' w.heap.size w'.heap.size v' (rowsR m ks).1 ∧ Below w.heap.size w w' := by
  have R := hide h
  have KR := hide hk
  obtain ⟨a, cap, rfl, _⟩ := h
  obtain ⟨ka, kcap, rfl, _⟩ := hk
  obtain ⟨b1, hb1⟩ : ∃ b, b = goodM m := ⟨_, rfl⟩
  obtain ⟨b2, hb2⟩ : ∃ b, b = decide (1 ≤ (ks.length : Int) ∧ (ks.length : Int) ≤ 8) := ⟨_, rfl⟩
  have no : (b1 = false ∨ b2 = false ∨ (ks.all fun z : Int => decide (0 ≤ z ∧ z < (m.length : Int))) = false) → rowsR m ks = ([], false) := by
    intro h
    have : rowsOk m ks = false := by
      unfold rowsOk
      rw [← hb1, ← hb2]
      rcases h with h | h | h
      · rw [h]; rfl
      · rw [h]; cases b1 <;> rfl
      · rw [h]; cases b1 <;> cases b2 <;> rfl
    simp [rowsR, this]
  have yes : b1 = true → b2 = true → (ks.all fun z : Int => decide (0 ≤ z ∧ z < (m.length : Int))) = true → rowsOk m ks = true := by
    intro h1 h2 h3
    unfold rowsOk
    rw [← hb1, ← hb2, h1, h2, h3]
    rfl
  have NO := hide no
  have YES := hide yes
  have B1 := hide hb1
  have B2 := hide hb2
  have B2' := hide hb2
  clear hb1 no yes
  cases b1 with
  | false =>
    clear hb2
    rw [NO.out (.inl rfl)]
    go_enter Tryd.func41, Tryd.ntmps41
    go_wp2_with fail
    refine (sGoodMatrix_calls _ m _ R.out).mono ?_
    rw [← B1.out]
    rintro e w' ⟨rfl, rfl⟩
    go_wp2
    go_ret2
    exact ⟨_, rfl, Mat.nil _ _ _, Below.refl _ _⟩
  | true =>
    cases b2 with
    | false =>
      clear hb2
      rw [NO.out (.inr (.inl rfl))]
      go_enter Tryd.func41, Tryd.ntmps41
      go_wp2_with fail
      refine (sGoodMatrix_calls _ m _ R.out).mono ?_
      rw [← B1.out]
      rintro e w' ⟨rfl, rfl⟩
      go_wp2_with fail
      refine (Gf.l1In_calls _ _ _ _).mono ?_
      rw [← B2.out]
      rintro e w' ⟨rfl, rfl⟩
      go_wp2
      go_ret2
      exact ⟨_, rfl, Mat.nil _ _ _, Below.refl _ _⟩
    | true =>
      have hk8 : ks.length ≤ 8 := by have := of_decide_eq_true hb2.symm; omega
      clear hb2
      obtain ⟨res, hres⟩ : ∃ r, r = rowsR m ks := ⟨_, rfl⟩
      rw [← hres]
      have RS := hide hres
      clear hres
      go_enter Tryd.func41, Tryd.ntmps41
      go_wp2_with fail
      refine (sGoodMatrix_calls _ m _ R.out).mono ?_
      rw [← B1.out]
      rintro e w' ⟨rfl, rfl⟩
      go_wp2_with fail
      refine (Gf.l1In_calls _ _ _ _).mono ?_
      rw [← B2.out]
      rintro e w' ⟨rfl, rfl⟩
      go_wp2
      go_loop [7, 19] (fun _ vi => ∃ k : Nat, k ≤ ks.length ∧ vi = .int .i64 k ∧ ∀ i, i < k → decide (0 ≤ ks.getD i 0 ∧ ks.getD i 0 < (m.length : Int)) = true) (fun _ vi => ks.length - (intOf vi).toNat)
      case atStart => exact ⟨0, Nat.zero_le _, rfl, fun i hi => by omega⟩
      case round =>
        obtain ⟨k, hk, rfl, hall⟩ := hrel
        have A := hide hall
        clear hall
        by_cases hlt : k < ks.length
        · have hlt' : (k : Int) < (ks.length : Int) := by omega
          obtain ⟨b, off, u, rfl, hc1, hu⟩ := KR.out.row k hlt
          obtain ⟨z, hz⟩ : ∃ z, z = ks.getD k 0 := ⟨_, rfl⟩
          rw [← hz] at hu
          subst hu
          have Z := hide hz
          clear hz
          by_cases hz0 : z < 0
          · go_wp2
            go_ret2
            have := NO.out (.inr (.inr (all_no hlt (by rw [← Z.out]; exact decide_eq_false (fun h => by omega)))))
            rw [← RS.out] at this
            rw [this]
            exact ⟨_, rfl, Mat.nil _ _ _, Below.refl _ _⟩
          · by_cases hz1 : (m.length : Int) ≤ z
            · go_wp2
              go_ret2
              have := NO.out (.inr (.inr (all_no hlt (by rw [← Z.out]; exact decide_eq_false (fun h => by omega)))))
              rw [← RS.out] at this
              rw [this]
              exact ⟨_, rfl, Mat.nil _ _ _, Below.refl _ _⟩
            · go_wp2
              go_round
              case rel =>
                refine ⟨k + 1, by omega, by go_num, fun i hi => ?_⟩
                by_cases e : i = k
                · subst e; rw [← Z.out]; exact decide_eq_true ⟨by omega, by omega⟩
                · exact A.out i (by omega)
              case measure => simp [intOf]; omega
        · obtain rfl : k = ks.length := by omega
          have hokt : rowsOk m ks = true := YES.out (by simp) (by simp) (all_yes A.out)
          have FF := hide (rowsOk_facts hokt)
          have e : res = (pickR m ks, true) := by rw [RS.out]; simp [rowsR, hokt]
          subst e
          clear hokt
          go_wp2_with fail
          refine (l2Rows_calls _ _ ks m _ KR.out R.out (by omega) FF.out.2.2.2 (fun i => by have := goodM_len8 FF.out.1 i; omega)).mono ?_
          rintro e w2 ⟨v2, rfl, hm, hb⟩
          have M := hide hm
          have B := hide hb
          clear hm hb
          go_wp2
          go_ret2
          exact ⟨_, rfl, M.out, B.out⟩
theorem rowsR_tot (m : List (List Int)) (ks : List Int) : (rowsR m ks).1.length + tot (rowsR m ks).1 ≤ 1048576 := by
  unfold rowsR
  split
  · rename_i h
    obtain ⟨h1, h2, h3, h4⟩ := rowsOk_facts h
    simp only []
    have : ∀ k, k ≤ ks.length → tot ((pickR m ks).take k) ≤ 8 * k := by
      intro k
      induction k with
      | zero => intro _; simp [tot]
      | succ k ih =>
        intro hk
        rw [tot_take_succ _ k (by rw [pickR_length]; omega), pickR_get _ _ k (by omega)]
        have := ih (by omega)
        have := goodM_len8 h1 (ks.getD k 0).toNat
        omega
    have := this ks.length (Nat.le_refl _)
    rw [List.take_of_length_le (by rw [pickR_length]; exact Nat.le_refl _)] at this
    rw [pickR_length]
    omega
  · simp [tot]
end Go.Proofs.YtoipcoidcaijjaaDoor
