/-
  The bytes of a text, one round each: whether a text is plain, and the iterator over its bytes. No condition but that it is a text. The finger of a window, by the program and by its model, call by call. No condition but that it is a text.
-/
import Derived.Test.YthmijjcddjlebaaDedupB8
import Derived.Lib.OthersKept
import Derived.Shelf.Abstract
import Derived.Shelf.RegionOpen
import Derived.OwnWalkIn
import Derived.TacticsInMore
import Derived.LoopNIn
import Derived.LoopIn
namespace Go.Proofs.Ythmijjcddjlebaa
open Go.RowKit Go.Shelf
set_option linter.unusedVariables false
attribute [local go_sem] Oper.semAt_some

abbrev plain (s : ByteArray) : Prop := ∀ i, i < s.size → (bs s).getD i 0 < 128
theorem bs_at9 (s : ByteArray) (k : Nat) (h : k < s.size) : (bs s).getD k 0 = s[k].toNat := by
  rw [List.getD_eq_getElem?_getD, List.getElem?_eq_getElem (by rw [bs_length]; exact h)]
  simp [bs]
  rfl

set_option maxRecDepth 100000 in
set_option maxHeartbeats 400000 in
theorem isPlain_calls (s : ByteArray) (w : World) (hn : s.size ≤ 1048576) :
    Calls Try.prog 143 #[.string s] w fun e w' => e = .returned (.bool (decide (plain s))) ∧ Below w.heap.size w w' := by
  have hk0 : Hid ((w.iter s 0).heap[w.heap.size]? = some (.stringIter s 0)) := World.iter_heap w s 0
  have hb0 : Hid (Below w.heap.size w (w.iter s 0)) := (Below.refl _ w).alloc (Nat.le_refl _) _
  go_enter Try.func143, Try.ntmps143
  go_wp2
  go_loopw [4] (fun _ wr => ∃ pos : Nat, pos ≤ s.size ∧ wr.heap[w.heap.size]? = some (.stringIter s pos) ∧ Below w.heap.size w wr ∧ ∀ i, i < pos → (bs s).getD i 0 < 128) (fun _ wr => s.size - wr.iterPos w.heap.size)
  case atStart => exact ⟨0, Nat.zero_le _, hk0.out, hb0.out, fun i hi => by omega⟩
  case round =>
    obtain ⟨pos, hps, hk, hb, hall⟩ := hrel
    have HA := hide hall
    have HB := hide hb
    clear hall hb
    by_cases hp : pos < s.size
    · have hzz := bs_at9 s pos hp
      have hmu : wr.iterPos w.heap.size = pos := by simp [World.iterPos, hk]
      by_cases ha : (s[pos]'hp).toNat < 128
      · have hnext : ∀ ty, (Instr.next (.pointer (some ⟨w.heap.size, 0, none⟩)) true ty).run Try.prog wr = _ := fun ty => Lib.run_next_ascii_at wr w.heap.size s pos ty hk hp ha
        have hk1 := Lib.iterAt_heap wr w.heap.size s pos (pos + 1) hk
        have hb1 : Hid (Below w.heap.size w (wr.iterAt w.heap.size s (pos + 1))) := Lib.below_iterAt HB.out (Nat.le_refl _) s (pos + 1)
        generalize wr.iterAt w.heap.size s (pos + 1) = W1 at hnext hk1 hb1
        have hmu1 : W1.iterPos w.heap.size = pos + 1 := by simp [World.iterPos, hk1]
        obtain ⟨z, hz⟩ : ∃ z, z = (s[pos]'hp).toNat := ⟨_, rfl⟩
        rw [← hz] at hnext ha hzz
        have HZ := hide hzz
        have M0 := hide hmu
        have M1 := hide hmu1
        have K1 := hide hk1
        have hzi : ¬ (128 : Int) ≤ (z : Int) := by omega
        clear hz hzz hmu hmu1 hk1 hk
        go_wp2
        go_roundw
        case rel =>
          refine ⟨pos + 1, by omega, K1.out, hb1.out, fun i hi => ?_⟩
          by_cases e : i = pos
          · subst e; rw [HZ.out]; exact ha
          · exact HA.out i (by omega)
        case measure => rw [M0.out, M1.out]; omega
      · have hnext : ∀ ty, (Instr.next (.pointer (some ⟨w.heap.size, 0, none⟩)) true ty).run Try.prog wr = _ := fun ty => Lib.run_next_any_at wr w.heap.size s pos ty hk hp
        have hdh := (decode_high s pos hp (by omega)).1
        have hdl := decode_le s pos
        have hb1 : Hid (Below w.heap.size w (wr.iterAt w.heap.size s (pos + (Utf8.decode s pos).2))) := Lib.below_iterAt HB.out (Nat.le_refl _) s _
        generalize wr.iterAt w.heap.size s (pos + (Utf8.decode s pos).2) = W1 at hnext hb1
        generalize (Utf8.decode s pos).1 = r at hnext hdh hdl
        have hri : (128 : Int) ≤ (r : Int) := by omega
        have NP : Hid (¬ plain s) := fun h => by have := h pos hp; omega
        clear hzz hmu hk
        go_wp2
        go_ret
        exact ⟨ret_bool (decide_eq_false NP.out).symm, hb1.out⟩
    · obtain rfl : pos = s.size := by omega
      have hnext : ∀ ty, (Instr.next (.pointer (some ⟨w.heap.size, 0, none⟩)) true ty).run Try.prog wr = _ := fun ty => Lib.run_next_end_at wr w.heap.size s s.size ty hk hp
      clear hk
      go_wp2
      go_ret
      exact ⟨ret_bool (decide_eq_true HA.out).symm, HB.out⟩

/-- What the iterator over a text's bytes gives. -/
def byteArgs (s : ByteArray) : List (Array Value) := (List.range s.size).map fun k : Nat => #[.int .i64 (k : Int), .int .i64 (((bs s).getD k 0 : Nat) : Int)]
theorem byteArgs_length (s : ByteArray) : (byteArgs s).length = s.size := by simp [byteArgs]
theorem byteArgs_at (s : ByteArray) (k : Nat) (h : k < s.size) : (byteArgs s)[k]? = some #[.int .i64 (k : Int), .int .i64 (((bs s).getD k 0 : Nat) : Int)] := by simp [byteArgs, h]
theorem byteArgs_some {s : ByteArray} {k : Nat} {x : Array Value} (h : (byteArgs s)[k]? = some x) : k < s.size ∧ x = #[.int .i64 (k : Int), .int .i64 (((bs s).getD k 0 : Nat) : Int)] := by
  have hk : k < s.size := by have := (List.getElem?_eq_some_iff.1 h).1; rwa [byteArgs_length] at this
  rw [byteArgs_at s k hk] at h
  exact ⟨hk, (Option.some.inj h).symm⟩

theorem bytesIn_calls (s : ByteArray) (w : World) :
    Calls Try.prog 118 #[.string s] w fun e w' => e = .returned (.func (.func 142) #[] #[.pointer (some ⟨w.heap.size, 0, none⟩)]) ∧ w' = w.alloc (.cells #[.string s] 9) := by
  go_enter Try.func118, Try.ntmps118
  go_wp2
  go_ret
  exact ⟨rfl, rfl⟩

set_option maxRecDepth 100000 in
set_option maxHeartbeats 1000000 in
theorem bytes1_iter (s : ByteArray) (Bs : Nat) (hn : s.size ≤ 1048576) :
    Iter Try.prog 142 #[.pointer (some ⟨Bs, 0, none⟩)] 0 (byteArgs s) (fun W => W.cell? ⟨Bs, 0, none⟩ = some (.string s)) := by
  intro n l J W hJ hC hY h0
  rw [byteArgs_length]
  show CallsIn Fence.wide n Try.prog 142 #[.func (.yield l) #[] #[], .pointer (some ⟨Bs, 0, none⟩)] W _
  have HJ := hide hJ
  have HC := hide hC
  have HY := hide hY
  have hc0 := hC 0 W h0
  clear hJ hC hY
  refine callsIn_of_wp Try.func142 rfl trivial ?_ rfl
  simp only [Try.ntmps142, List.size_toArray, List.length_cons, List.length_nil, Nat.reduceAdd, Nat.reduceSub, Array.replicate_succ, Array.replicate_zero, List.push_toArray, List.append_toArray, List.nil_append, List.cons_append]
  gi_wp2_with fail
  refine wide_call (isPlain_calls s W hn) ?_
  rintro e W1 ⟨rfl, b1⟩
  have h1 := HJ.out 0 W W1 h0 (.of_below b1)
  have hc1 := HC.out 0 W1 h1
  have hs1 := b1.size
  have B1 := hide b1
  clear b1
  by_cases hp : plain s
  · rw [decide_eq_true hp]
    have HP := hide hp
    clear hp
    have hk2 : Hid ((W1.iter s 0).heap[W1.heap.size]? = some (.stringIter s 0)) := World.iter_heap W1 s 0
    have h2 := hide (HJ.out 0 W1 (W1.iter s 0) h1 (Spar.alloc _ _ _ _ _))
    gi_wp2
    gi_loopw [3] (fun _ wr => ∃ k : Nat, k ≤ s.size ∧ wr.heap[W1.heap.size]? = some (.stringIter s k) ∧ J k wr ∧ W.heap.size ≤ wr.heap.size) (fun _ wr => s.size - wr.iterPos W1.heap.size)
    case atStart => exact ⟨0, Nat.zero_le _, hk2.out, h2.out, by simp [World.iter]; omega⟩
    case round =>
      obtain ⟨k, hk, hkr, hJk, hsz⟩ := hrel
      have hmu : wr.iterPos W1.heap.size = k := by simp [World.iterPos, hkr]
      by_cases hlt : k < s.size
      · have ha := HP.out k hlt
        have hzz := bs_at9 s k hlt
        have hnext : ∀ ty, (Instr.next (.pointer (some ⟨W1.heap.size, 0, none⟩)) true ty).run Try.prog wr = _ := fun ty => Lib.run_next_ascii_at wr W1.heap.size s k ty hkr hlt (by omega)
        have hk3 := Lib.iterAt_heap wr W1.heap.size s k (k + 1) hkr
        have h3 := HJ.out k wr (wr.iterAt W1.heap.size s (k + 1)) hJk (Spar.putObj (.stringIter s (k + 1)) hkr rfl hs1)
        have hsz3 : W.heap.size ≤ (wr.iterAt W1.heap.size s (k + 1)).heap.size := by rw [Lib.iterAt_size]; exact hsz
        generalize wr.iterAt W1.heap.size s (k + 1) = W3 at hnext hk3 h3 hsz3
        obtain ⟨fn, tmps, assign, body, hy, hR⟩ := HY.out (n - 1) k _ W3 (byteArgs_at s k hlt) h3 hsz3
        rw [hzz] at hy ha
        obtain ⟨z, hz⟩ : ∃ z, z = (s[k]'hlt).toNat := ⟨_, rfl⟩
        rw [← hz] at hnext ha hy
        have M0 := hide hmu
        have K3 := hide hk3
        clear hz hzz hmu hk3 hkr
        gi_wp2
        refine ⟨fun h => by simp [Fence.wide] at h, hR.mono ?_⟩
        rintro e W4 ⟨rfl, h4, k4⟩
        have hk4 := k4.same _ _ hs1 K3.out (.inl rfl)
        have M4 : Hid (W4.iterPos W1.heap.size = k + 1) := by show _ = _; simp [World.iterPos, hk4]
        have K4 := hide hk4
        have s4 := Nat.le_trans hsz3 k4.size
        clear hk4 k4 hR
        gi_wp2
        go_roundw
        case rel => exact ⟨k + 1, by omega, K4.out, h4, s4⟩
        case measure => rw [M0.out, M4.out]; omega
      · obtain rfl : k = s.size := by omega
        have hnext : ∀ ty, (Instr.next (.pointer (some ⟨W1.heap.size, 0, none⟩)) true ty).run Try.prog wr = _ := fun ty => Lib.run_next_end_at wr W1.heap.size s s.size ty hkr hlt
        gi_wp2
        refine bodyPost_ret (results_none rfl _ _ _) rfl ?_
        exact ⟨⟨_, rfl⟩, hJk⟩
  · rw [decide_eq_false hp]
    gi_wp2
    gi_loopw [22] (fun vi wr => ∃ k : Nat, k ≤ s.size ∧ vi = .int .i64 k ∧ J k wr ∧ W.heap.size ≤ wr.heap.size) (fun vi _ => s.size - (intOf vi).toNat)
    case atStart => exact ⟨0, Nat.zero_le _, rfl, h1, hs1⟩
    case round =>
      obtain ⟨k, hk, rfl, hJk, hsz⟩ := hrel
      have hck := HC.out k wr hJk
      by_cases hlt : k < s.size
      · obtain ⟨fn, tmps, assign, body, hy, hR⟩ := HY.out (n - 1) k _ wr (byteArgs_at s k hlt) hJk hsz
        rw [bs_at9 s k hlt] at hy
        obtain ⟨z, hz⟩ : ∃ z, z = (s[k]'hlt).toNat := ⟨_, rfl⟩
        have hz2 : z < 256 := by rw [hz]; exact (s[k]).toNat_lt
        rw [← hz] at hy
        have hz' := hz.symm
        clear hz
        gi_wp2
        refine ⟨fun h => by simp [Fence.wide] at h, hR.mono ?_⟩
        rintro e W4 ⟨rfl, h4, k4⟩
        have s4 := Nat.le_trans hsz k4.size
        clear k4 hR
        gi_wp2
        go_roundw
        case rel => exact ⟨k + 1, by omega, by go_num, h4, s4⟩
        case measure => simp [intOf]; omega
      · obtain rfl : k = s.size := by omega
        gi_wp2
        go_end0
        exact ⟨⟨_, rfl⟩, hJk⟩
end Go.Proofs.Ythmijjcddjlebaa

namespace Go.Proofs.Ythmijjcddjlebaa
open Go.RowKit Go.Shelf
set_option linter.unusedVariables false
attribute [local go_sem] Oper.semAt_some

def fingR (s : ByteArray) : Int × Bool := if s.size = 4 then (((fg (bs s) : Nat) : Int), true) else (0, false)
theorem fg_step (s : ByteArray) (k : Nat) (h : k < s.size) : fg ((bs s).take (k + 1)) = rf (fg ((bs s).take k)) 0 ((bs s).getD k 0) := by
  rw [take_snoc9 _ k (by rw [bs_length]; exact h), fg_snoc, rf_zero]
theorem bs_take_all (s : ByteArray) : (bs s).take s.size = bs s := List.take_of_length_le (by rw [bs_length]; exact Nat.le_refl _)
theorem bs_small (s : ByteArray) (k : Nat) : (bs s).getD k 0 < 256 := getD_lt (bs_lt s) k

set_option maxRecDepth 100000 in
set_option maxHeartbeats 400000 in
theorem l9Finger_calls (s : ByteArray) (w : World) (hn : s.size ≤ 1048576) :
    Calls Try.prog 145 #[.string s] w fun e w' => e = .returned (.int .i64 (fg (bs s) : Nat)) ∧ w = w' := by
  go_enter Try.func145, Try.ntmps145
  go_wp2
  go_loop [3, 4] (fun vs vi => ∃ k : Nat, k ≤ s.size ∧ vi = .int .i64 k ∧ vs = .int .i64 (fg ((bs s).take k) : Nat)) (fun _ vi => s.size - (intOf vi).toNat)
  case atStart => exact ⟨0, by omega, rfl, rfl⟩
  case round =>
    obtain ⟨k, hk, rfl, rfl⟩ := hrel
    have hy := fg_lt ((bs s).take k)
    by_cases hlt : k < s.size
    · have hst := hide (fg_step s k hlt)
      have hzz := bs_at9 s k hlt
      have hz2 := bs_small s k
      generalize fg ((bs s).take k) = y at hy hst ⊢
      generalize (bs s).getD k 0 = z at hst hzz hz2
      have hzz' := hzz.symm
      have E : Hid (((y : Int) * 257 + z) % 8191 = ((rf y 0 z : Nat) : Int)) := by show _ = _; rw [rf_zero]; omega
      clear hzz
      go_wp2
      go_round
      case rel => exact ⟨k + 1, by omega, by go_num, int_eq (by rw [hst.out, ← E.out])⟩
      case measure => simp [intOf]; omega
    · obtain rfl : k = s.size := by omega
      rw [bs_take_all]
      go_wp2
      go_ret
      exact ⟨rfl, rfl⟩

end Go.Proofs.Ythmijjcddjlebaa
