/-
  Slices of texts marked, and whether the marks are held, call by call. Each contract says what it asks.
-/
import Derived.Test.YtpgmocogffolaaaTxt
namespace Go.Proofs.Ytpgmocogffolaaa
open Go.RowKit
set_option linter.unusedVariables false

/-- The marks k, k + 1, .. -/
def marksT (k n : Nat) : List ByteArray := (List.range n).map fun i : Nat => mt (k + i)
theorem marksT_length (k n : Nat) : (marksT k n).length = n := by simp [marksT]
theorem marksT_getD (k n i : Nat) (h : i < n) : (marksT k n).getD i ⟨#[]⟩ = mt (k + i) := by simp [marksT, h]
/-- What is marked so far. -/
def mkT (k : Nat) (xs : List ByteArray) (i : Nat) : List ByteArray := marksT k i ++ xs.drop i
theorem mkT_length (k : Nat) (xs : List ByteArray) (i : Nat) (h : i ≤ xs.length) : (mkT k xs i).length = xs.length := by simp [mkT, marksT]; omega
theorem mkT_step (k : Nat) (xs : List ByteArray) (i : Nat) (h : i < xs.length) : (mkT k xs i).set i (mt (k + i)) = mkT k xs (i + 1) := by
  unfold mkT
  rw [List.set_append_right _ _ (by simp [marksT]), marksT_length, Nat.sub_self, List.drop_eq_getElem_cons h, List.set_cons_zero]
  simp [marksT, List.range_succ]
theorem mkT_end (k : Nat) (xs : List ByteArray) : mkT k xs xs.length = marksT k xs.length := by simp [mkT]
theorem below_grow {w w' : World} (h : Below w.heap.size w w') (g : Option Nat) : w.grownBy w' g := ⟨h.os, h.tape, h.output, h.size, fun j hj _ => h.block j hj⟩
theorem marksT_small (k n : Nat) (h : k + n ≤ 1099511627776) : ∀ s ∈ marksT k n, s.size ≤ maxLen := by
  intro s hs
  simp only [marksT, List.mem_map, List.mem_range] at hs
  obtain ⟨i, hi, rfl⟩ := hs
  have := mt_size (k + i)
  unfold maxLen
  omega

set_option maxRecDepth 100000 in
set_option maxHeartbeats 400000 in
theorem markStringS_calls (v : Value) (xs : List ByteArray) (k : Nat) (base : Nat) (w : World) (h : OwnT w base v xs) (hk0 : 0 < k) (hk : k ≤ 1000000000) (hn : xs.length ≤ 1048576) :
    Calls Try.prog 58 #[v, .int .i64 k] w fun e w' => e = .returned (.int .i64 ((k + xs.length : Nat) : Int)) ∧ OwnT w' base v (marksT k xs.length) ∧ w.grownBy w' v.ownBlock := by
  rcases h.2 with ⟨rfl, hz⟩ | ⟨g, cap, cur, rfl, hb, hg, hc, hm, hs, ht⟩
  · have : xs = [] := List.eq_nil_of_length_eq_zero hz
    subst this
    go_enter Try.func58, Try.ntmps58
    go_wp2
    refine wp_loop_rounds 1 ?_
    rw [rounds_succ]
    go_wp2
    go_ret
    exact ⟨by simp, World.ownsRow_nil _ _ _ _, World.grownBy.refl _ _⟩
  · have H := hide h
    clear h ht
    go_enter Try.func58, Try.ntmps58
    go_wp2
    go_loopw [1, 5] (fun vk vi wr => ∃ i : Nat, i ≤ xs.length ∧ vi = .int .i64 i ∧ vk = .int .i64 ((k + i : Nat) : Int) ∧ wr.ownsRow base 9 1 (.slice (some ⟨g, 0, none⟩) xs.length cap) xs.length ((mkT k xs i).map Value.string) ∧ w.grownBy wr (some g)) (fun _ vi _ => xs.length - (intOf vi).toNat)
    case atStart => exact ⟨0, Nat.zero_le _, rfl, by go_num, by rw [show mkT k xs 0 = xs from by simp [mkT, marksT]]; exact H.out, World.grownBy.refl _ _⟩
    case round =>
      obtain ⟨i, hi, rfl, rfl, hown, hgr⟩ := hrel
      by_cases hlt : i < xs.length
      · have O := hide hown
        have G := hide hgr
        have hlt' : (i : Int) < (xs.length : Int) := by omega
        clear hown hgr
        obtain ⟨j, hj⟩ : ∃ j, j = k + i := ⟨_, rfl⟩
        have HJ := hide hj
        have hj1 : 0 < j := by omega
        have hj2 : j ≤ 1001048576 := by omega
        rw [← hj]
        clear hj
        go_wp2_with fail
        refine (markText_calls j _ hj1 (by omega)).mono ?_
        rintro e w1 ⟨rfl, b1⟩
        have o1 : w1.ownsRow base 9 1 (.slice (some ⟨g, 0, none⟩) xs.length cap) xs.length ((mkT k xs i).map Value.string) := by
          have hO : OwnT wr base (.slice (some ⟨g, 0, none⟩) xs.length cap) (mkT k xs i) := by
            show World.ownsRow _ _ _ _ _ (mkT k xs i).length _
            rw [mkT_length k xs i hi]
            exact O.out
          have := hO.below b1
          unfold OwnT at this
          rwa [mkT_length k xs i hi] at this
        have G1 := hide (grown_trans G.out (below_grow b1 (some g)))
        have hc2 : w1.frozen? ⟨g, i, none⟩ = false := o1.frozenAt i
        obtain ⟨old, hc3⟩ : ∃ old, w1.cell? ⟨g, i, none⟩ = some old := by
          rw [o1.cellAt i (by omega)]
          have := mkT_length k xs i hi
          exact ⟨_, List.getElem?_eq_getElem (by simp; omega)⟩
        have hst := o1.stored i (.string (mt j))
        have K := hide hst
        clear hst o1 b1
        go_wp2
        go_roundw
        case rel =>
          refine ⟨i + 1, by omega, by go_num, int_eq (by have := HJ.out; omega), ?_, ?_⟩
          · have := K.out.1
            rw [← List.map_set, HJ.out, mkT_step k xs i hlt] at this
            rw [HJ.out]
            exact this
          · exact grown_trans G1.out (by simpa using K.out.2)
        case measure => simp [intOf]; omega
      · obtain rfl : i = xs.length := by omega
        go_wp2
        go_ret
        rw [mkT_end] at hown
        refine ⟨rfl, ?_, hgr⟩
        have e : (marksT k xs.length).length = xs.length := marksT_length _ _
        show World.ownsRow _ _ _ _ _ (marksT k xs.length).length _
        rw [e]
        exact hown

set_option maxRecDepth 100000 in
set_option maxHeartbeats 400000 in
theorem heldStringS_calls (v : Value) (n k : Nat) (w : World) (h : RdT w v (marksT k n)) (hk0 : 0 < k) (hk : k ≤ 1000000000) (hn : n ≤ 1048576) :
    Calls Try.prog 59 #[v, .int .i64 k] w fun e w' => e = .returned (.int .i64 ((k + n : Nat) : Int)) ∧ Below w.heap.size w w' := by
  obtain ⟨a, cap, rfl, h1, h2, h4, h3⟩ := h
  rw [marksT_length]
  have H := hide h3
  clear h3 h4 h2 h1
  go_enter Try.func59, Try.ntmps59
  go_wp2
  go_loopw [1, 5] (fun vk vi wr => ∃ i : Nat, i ≤ n ∧ vi = .int .i64 i ∧ vk = .int .i64 ((k + i : Nat) : Int) ∧ Below w.heap.size w wr) (fun _ vi _ => n - (intOf vi).toNat)
  case atStart => exact ⟨0, Nat.zero_le _, rfl, by go_num, Below.refl _ _⟩
  case round =>
    obtain ⟨i, hi, rfl, rfl, hb⟩ := hrel
    by_cases hlt : i < n
    · rcases H.out with h3 | ⟨b, off, rfl, hbs, hc⟩
      · have := congrArg List.length h3
        rw [marksT_length] at this
        simp at this; omega
      have hc1 := hc i (by rw [marksT_length]; exact hlt)
      rw [marksT_getD k n i hlt] at hc1
      have F : Hid (∀ w', Below wr.heap.size wr w' → w'.cell? ⟨b, off + i, none⟩ = some (.string (mt (k + i)))) :=
        fun w' hb' => (hb'.cell (p := ⟨b, off + i, none⟩) (Nat.lt_of_lt_of_le hbs hb.size)).trans ((hb.cell (p := ⟨b, off + i, none⟩) hbs).trans hc1)
      clear hc hc1
      have HB := hide hb
      clear hb
      have hlt' : (i : Int) < (n : Int) := by omega
      obtain ⟨j, hj⟩ : ∃ j, j = k + i := ⟨_, rfl⟩
      have HJ := hide hj
      have hj1 : 0 < j := by omega
      have hj2 : j ≤ 1001048576 := by omega
      rw [← hj] at F ⊢
      clear hj
      go_wp2
      go_region_held3 (fun w' => w'.cell? ⟨b, off + i, none⟩ = some (.string (mt j))) (first | exact F.out _ (Below.refl _ _).drew | exact F.out _ B1.out)
        ((go_at_call 110; refine (markText_calls j _ hj1 (by omega)).mono ?_; rintro e' w1 ⟨rfl, b1⟩; have B1 := hide ((Below.refl wr.heap.size wr).drew.trans b1); clear b1))
      go_wp2
      go_roundw
      case rel => exact ⟨i + 1, by omega, by go_num, int_eq (by have := HJ.out; omega), HB.out.trans (B1.out.mono HB.out.size)⟩
      case measure => simp [intOf]; omega
    · obtain rfl : i = n := by omega
      go_wp2
      go_ret
      exact ⟨rfl, hb⟩
end Go.Proofs.Ytpgmocogffolaaa
