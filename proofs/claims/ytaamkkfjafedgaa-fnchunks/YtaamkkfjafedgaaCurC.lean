/-
  The model's drawing of numbers and texts out of bytes, call by call: each draw returns within its bounds, moves its own cursor on and touches nothing else that was there. Each contract says what it asks.
-/
import Derived.Test.YtaamkkfjafedgaaTxm
import Derived.Test.YtaamkkfjafedgaaInts
namespace Go.Proofs.Ytaamkkfjafedgaa
open Go.RowKit

def AllLt (l : List Nat) : Prop := ∀ i, l.getD i 0 < 256
theorem wrap_i64 (n : Int) : IntKind.i64.wrap n = (n + 9223372036854775808) % 18446744073709551616 - 9223372036854775808 := by
  simp [IntKind.wrap, IntKind.bits, IntKind.signed]
  omega
/-- The value v is a slice of bytes that can be read, in this world. -/
def RdB (w : World) (v : Value) : Prop :=
  ∃ a cap, ∃ zs : List Nat, v = .slice a zs.length cap ∧ zs.length ≤ 281474976710656 ∧ AllLt zs ∧
    (zs = [] ∨ ∃ b off, a = some ⟨b, off, none⟩ ∧ b < w.heap.size ∧ ∀ i, i < zs.length → w.cell? ⟨b, off + i, none⟩ = some (.int .u8 (zs.getD i 0 : Nat)))
theorem RdB.below {w w' : World} {v : Value} (h : RdB w v) (hb : Below w.heap.size w w') : RdB w' v := by
  obtain ⟨a, cap, zs, rfl, h1, h2, h3⟩ := h
  refine ⟨a, cap, zs, rfl, h1, h2, ?_⟩
  rcases h3 with h3 | ⟨b, off, rfl, hlt, hc⟩
  · exact .inl h3
  · exact .inr ⟨b, off, rfl, Nat.lt_of_lt_of_le hlt hb.size, fun i hi => (hb.cell (p := ⟨b, off + i, none⟩) hlt).trans (hc i hi)⟩
/-- The cursor in block g: over the bytes cv, not further than k. -/
structure CurS (w : World) (g : Nat) (cv : Value) (k : Nat) : Prop where
  at_ : ∃ (n : Nat) (s : Int), n ≤ k ∧ w.heap[g]? = some (.cells #[cv, .int .i64 n, .int .u64 s] 67 (0, 0))
  code : ∀ w', w.grownBy w' (some g) → RdB w' cv
theorem CurS.mono {w : World} {g k k' : Nat} {cv : Value} (h : CurS w g cv k) (hk : k ≤ k') : CurS w g cv k' := by
  obtain ⟨n, s, hn, hh⟩ := h.at_
  exact ⟨⟨n, s, by omega, hh⟩, h.code⟩
theorem CurS.alloc {w : World} {g k : Nat} {cv : Value} (h : CurS w g cv k) (o : Obj) : CurS (w.alloc o) g cv k := by
  obtain ⟨n, s, hn, hh⟩ := h.at_
  have hlt : g < w.heap.size := (Array.getElem?_eq_some_iff.1 hh).1
  exact ⟨⟨n, s, hn, (Below.heap_alloc w o g hlt).trans hh⟩, fun w' hg => h.code w' (grown_trans (World.grownBy_alloc w o _) hg)⟩
theorem i64_small {x : Int} (h0 : 0 ≤ x) (h : x < 256) : IntKind.i64.wrap x = x := by rw [wrap_i64]; omega
theorem u64_and255 (x : Int) (h0 : 0 ≤ x) (h : x < 18446744073709551616) : bits .and .u64 x 255 = x % 256 := by
  obtain ⟨X, rfl⟩ := Int.eq_ofNat_of_zero_le h0
  show IntKind.u64.wrap ((BitVec.ofInt 64 (X : Int) &&& BitVec.ofInt 64 ((255 : Nat) : Int)).toNat : Int) = _
  have e : X &&& 255 = X % 256 := Nat.and_two_pow_sub_one_eq_mod X 8
  rw [BitVec.toNat_and, ofInt_i64, ofInt_i64, Nat.mod_eq_of_lt (by omega), Nat.mod_eq_of_lt (by omega), e, IntKind.wrap_u64]
  omega

theorem cur_moved {w : World} {g n k m m' : Nat} {cv : Value} {s s' : Int} (hh : w.heap[g]? = some (.cells #[cv, .int .i64 n, .int .u64 s] 67 (0, 0))) (hn : n ≤ k) (code : ∀ w', w.grownBy w' (some g) → RdB w' cv) :
    CurS ((((w.drewN m).setCell ⟨g, 1, none⟩ (.int .i64 ((n : Int) + 1))).setCell ⟨g, 2, none⟩ (.int .u64 s')).drewN m') g cv (k + 1) ∧
      w.grownBy ((((w.drewN m).setCell ⟨g, 1, none⟩ (.int .i64 ((n : Int) + 1))).setCell ⟨g, 2, none⟩ (.int .u64 s')).drewN m') (some g) := by
  have h1 : ((w.drewN m).setCell ⟨g, 1, none⟩ (.int .i64 ((n : Int) + 1))).heap[g]? = some (.cells #[cv, .int .i64 ((n : Int) + 1), .int .u64 s] 67 (0, 0)) :=
    heap_setCell_same (w.drewN m) g 1 _ _ _ hh
  have h2 : (((w.drewN m).setCell ⟨g, 1, none⟩ (.int .i64 ((n : Int) + 1))).setCell ⟨g, 2, none⟩ (.int .u64 s')).heap[g]? = some (.cells #[cv, .int .i64 ((n : Int) + 1), .int .u64 s'] 67 (0, 0)) :=
    heap_setCell_same _ g 2 _ _ _ h1
  have hg : w.grownBy ((((w.drewN m).setCell ⟨g, 1, none⟩ (.int .i64 ((n : Int) + 1))).setCell ⟨g, 2, none⟩ (.int .u64 s')).drewN m') (some g) := by
    refine ⟨rfl, rfl, rfl, by simp [World.drewN], fun j _ hj => ?_⟩
    have hne : j ≠ g := fun e => hj (by rw [e])
    exact (Below.heap_setCell _ ⟨g, 2, none⟩ _ j hne).trans (Below.heap_setCell (w.drewN m) ⟨g, 1, none⟩ _ j hne)
  exact ⟨⟨⟨n + 1, s', by omega, by simpa using h2⟩, fun w' hw => code w' (grown_trans hg hw)⟩, hg⟩
theorem seed_bd (x : Int) : ∃ r : Nat, r < 256 ∧ wrap64 (bits .and .u64 (IntKind.u64.wrap x / 1099511627776) 255) = (r : Int) := by
  have h0 : 0 ≤ IntKind.u64.wrap x := wrap_u64_nonneg x
  have h1 : IntKind.u64.wrap x < 18446744073709551616 := by rw [IntKind.wrap_u64]; omega
  rw [u64_and255 _ (by omega) (by omega)]
  refine ⟨(IntKind.u64.wrap x / 1099511627776 % 256).toNat, by omega, ?_⟩
  unfold wrap64
  omega

set_option maxRecDepth 100000 in
set_option maxHeartbeats 1600000 in
theorem next_calls (g : Nat) (cv : Value) (k : Nat) (w : World) (h : CurS w g cv k) (hk : k ≤ 1073741824) :
    Calls Try.prog 93 #[.pointer (some ⟨g, 0, none⟩)] w fun e w' => ∃ r : Nat, r < 256 ∧ e = .returned (.int .i64 r) ∧ CurS w' g cv (k + 1) ∧ w.grownBy w' (some g) := by
  obtain ⟨n, s, hn, hh⟩ := h.at_
  have C := hide h.code
  have hR := h.code w (World.grownBy.refl _ _)
  obtain ⟨a, cap, zs, rfl, hz1, hz2, h3⟩ := hR
  have hc0 : w.cell? ⟨g, 0, none⟩ = some (.slice a zs.length cap) := by rw [cell_of_row w g 0 _ _ _ hh]; rfl
  have hc1 : w.cell? ⟨g, 1, none⟩ = some (.int .i64 n) := by rw [cell_of_row w g 1 _ _ _ hh]; rfl
  have hc2 : w.cell? ⟨g, 2, none⟩ = some (.int .u64 s) := by rw [cell_of_row w g 2 _ _ _ hh]; rfl
  have hf1 : w.frozen? ⟨g, 1, none⟩ = false := frozen_of_row w g 1 _ _ hh
  have hf2 : w.frozen? ⟨g, 2, none⟩ = false := frozen_of_row w g 2 _ _ hh
  have HH := hide hh
  clear hh h
  by_cases hlt : n < zs.length
  · rcases h3 with h3 | ⟨b, off, rfl, hbs, hcz⟩
    · subst h3; simp at hlt
    have hz := hcz n hlt
    clear hcz
    obtain ⟨z, hzz⟩ : ∃ z, z = zs.getD n 0 := ⟨_, rfl⟩
    have hz256 : z < 256 := by rw [hzz]; exact hz2 n
    rw [← hzz] at hz
    clear hzz
    have t1 : (n : Int) < (zs.length : Int) := by omega
    have t2 : (n : Int) + 1 ≤ (zs.length : Int) := by omega
    go_enter Try.func93, Try.ntmps93
    go_wp2
    go_quiet (fail)
    go_wp2
    go_quiet (fail)
    go_wp2
    go_quiet (fail)
    go_wp2
    go_ret
    exact ⟨z, hz256, rfl, cur_moved HH.out hn C.out⟩
  · clear h3
    have t1 : ¬ (n : Int) < (zs.length : Int) := by omega
    have t2 : ¬ (n : Int) + 1 ≤ (zs.length : Int) := by omega
    go_enter Try.func93, Try.ntmps93
    go_wp2
    go_quiet (fail)
    go_wp2
    go_quiet (fail)
    go_wp2
    go_ret
    obtain ⟨r, hr, e⟩ := seed_bd (IntKind.u64.wrap (IntKind.u64.wrap (s * 6364136223846793005)) + 1442695040888963407)
    exact ⟨r, hr, ret_int e, cur_moved HH.out hn C.out⟩

set_option maxRecDepth 100000 in
set_option maxHeartbeats 800000 in
theorem pick_calls (g : Nat) (cv : Value) (k n : Nat) (w : World) (h : CurS w g cv k) (hk : k ≤ 1000000000) (hn0 : 1 ≤ n) (hn : n ≤ 65536) :
    Calls Try.prog 70 #[.pointer (some ⟨g, 0, none⟩), .int .i64 n] w fun e w' => ∃ r : Nat, r < n ∧ e = .returned (.int .i64 r) ∧ CurS w' g cv (k + 2) ∧ w.grownBy w' (some g) := by
  have H := hide h
  clear h
  by_cases h1 : n ≤ 1
  · have t : (n : Int) ≤ 1 := by omega
    go_enter Try.func70, Try.ntmps70
    go_wp2
    go_ret
    exact ⟨0, by omega, rfl, H.out.mono (by omega), World.grownBy.refl _ _⟩
  · have t : ¬ (n : Int) ≤ 1 := by omega
    by_cases h2 : 200 < n
    · have t2 : (200 : Int) < (n : Int) := by omega
      go_enter Try.func70, Try.ntmps70
      go_wp2_with fail
      refine (next_calls g cv k _ H.out (by omega)).mono ?_
      rintro e w1 ⟨r1, hr1, rfl, hc1, hg1⟩
      have C1 := hide hc1
      have G1 := hide hg1
      clear hc1 hg1 H
      go_wp2_with fail
      refine (next_calls g cv (k + 1) _ C1.out (by omega)).mono ?_
      rintro e w2 ⟨r2, hr2, rfl, hc2, hg2⟩
      have C2 := hide hc2
      have G2 := hide (grown_trans G1.out hg2)
      clear hc2 hg2
      have hnz : ((n : Int) == 0) = false := by simp; omega
      have hnz' : (n : Int) ≠ 0 := by omega
      go_wp2
      go_ret
      exact ⟨(r1 * 256 + r2) % n, Nat.mod_lt _ (by omega), ret_int (by simp), C2.out, G2.out⟩
    · have t2 : ¬ (200 : Int) < (n : Int) := by omega
      go_enter Try.func70, Try.ntmps70
      go_wp2_with fail
      refine (next_calls g cv k _ H.out (by omega)).mono ?_
      rintro e w1 ⟨r1, hr1, rfl, hc1, hg1⟩
      have C1 := hide hc1
      have G1 := hide hg1
      clear hc1 hg1 H
      have hnz : ((n : Int) == 0) = false := by simp; omega
      have hnz' : (n : Int) ≠ 0 := by omega
      go_wp2
      go_ret
      exact ⟨r1 % n, Nat.mod_lt _ (by omega), ret_int (by simp), C1.out.mono (by omega), G1.out⟩

set_option maxRecDepth 100000 in
theorem one_calls (g : Nat) (cv : Value) (k n : Nat) (w : World) (h : CurS w g cv k) (hk : k ≤ 1000000000) (hn0 : 1 ≤ n) (hn : n ≤ 65536) :
    Calls Try.prog 71 #[.pointer (some ⟨g, 0, none⟩), .int .i64 n] w fun e w' => ∃ b : Bool, e = .returned (.bool b) ∧ CurS w' g cv (k + 2) ∧ w.grownBy w' (some g) := by
  have H := hide h
  clear h
  go_enter Try.func71, Try.ntmps71
  go_wp2_with fail
  refine (pick_calls g cv k n _ H.out hk hn0 hn).mono ?_
  rintro e w1 ⟨r1, hr1, rfl, hc1, hg1⟩
  have C1 := hide hc1
  have G1 := hide hg1
  clear hc1 hg1 H
  go_wp2
  go_ret
  exact ⟨_, rfl, C1.out, G1.out⟩

set_option maxRecDepth 100000 in
set_option maxHeartbeats 800000 in
theorem among_calls (g : Nat) (cv v : Value) (xs : List Int) (k : Nat) (w : World) (h : CurS w g cv k) (hk : k ≤ 1000000000) (hr : ∀ w', w.grownBy w' (some g) → Rd w' v xs) (h0 : 1 ≤ xs.length) (hl : xs.length ≤ 200) :
    Calls Try.prog 60 #[.pointer (some ⟨g, 0, none⟩), v] w fun e w' => ∃ z : Int, e = .returned (.int .i64 z) ∧ CurS w' g cv (k + 2) ∧ w.grownBy w' (some g) := by
  have H := hide h
  have R := hide hr
  have hr0 := hr w (World.grownBy.refl _ _)
  obtain ⟨a, cap, rfl, _, _, _⟩ := hr0
  clear h hr
  go_enter Try.func60, Try.ntmps60
  go_wp2_with fail
  refine (pick_calls g cv k xs.length _ H.out hk h0 (by omega)).mono ?_
  rintro e w1 ⟨r1, hr1, rfl, hc1, hg1⟩
  have C1 := hide hc1
  have G1 := hide hg1
  obtain ⟨a', cap', hv, _, _, h3⟩ := R.out w1 hg1
  have hv2 : a' = a := by simp at hv; exact hv.1.symm
  subst hv2
  clear hv hc1 hg1 H
  rcases h3 with h3 | ⟨b, off, rfl, hbs, hc⟩
  · subst h3; simp at h0
  have hcell := hc r1 hr1
  obtain ⟨z, hz⟩ : ∃ z, z = xs.getD r1 0 := ⟨_, rfl⟩
  rw [← hz] at hcell
  clear hz hc
  have t : (r1 : Int) < (xs.length : Int) := by omega
  go_wp2
  go_ret
  exact ⟨z, rfl, C1.out, G1.out⟩

theorem rd_build {w : World} {l : List Int} {g : Nat} (hg : g < w.heap.size) (hm : l.length ≤ maxLen) : ∀ w', (w.alloc (.cells (l.map (Value.int .i64)).toArray 3)).grownBy w' (some g) → Rd w' (.slice (some ⟨w.heap.size, 0, none⟩) l.length l.length) l := by
  intro w' hg'
  have hO : Own (w.alloc (.cells (l.map (Value.int .i64)).toArray 3)) w.heap.size (.slice (some ⟨w.heap.size, 0, none⟩) l.length l.length) l := by
    have := World.ownsRow_lit (base := w.heap.size) (e := 3) (size := 1) w (l.map (Value.int .i64)).toArray l.length (Nat.le_refl _) hm (by simp)
    simpa using this
  exact Own.rd (World.ownsRow.kept hO hg' (.inr (by simp [Value.ownBlock]; omega)))


theorem cur_new {w : World} {cv : Value} (h : RdB w cv) : CurS (w.alloc (.cells #[cv, .int .i64 0, .int .u64 0] 67)) w.heap.size cv 0 := by
  refine ⟨⟨0, 0, Nat.le_refl _, heap_alloc_new w _⟩, fun w' hg => ?_⟩
  have hb : Below w.heap.size w w' := ((Below.refl _ _).alloc (Nat.le_refl _) _).grown hg (by simp) (fun k hk => by simp at hk; omega)
  exact h.below hb

theorem cur_below {w w' : World} {cv : Value} (hg : (w.alloc (.cells #[cv, .int .i64 0, .int .u64 0] 67)).grownBy w' (some w.heap.size)) : Below w.heap.size w w' :=
  ((Below.refl _ _).alloc (Nat.le_refl _) _).grown hg (by simp) (fun k hk => by simp at hk; omega)



set_option maxRecDepth 100000 in
set_option maxHeartbeats 800000 in
theorem numberOf_calls (cv : Value) (w : World) (h : RdB w cv) :
    Calls Try.prog 21 #[cv] w fun e w' => ∃ n : Nat, n < 1000003 ∧ e = .returned (.int .i64 n) ∧ w = w' := by
  obtain ⟨a, cap, zs, rfl, h1, h2, h3⟩ := h
  have H := hide h3
  clear h3
  go_enter Try.func21, Try.ntmps21
  go_wp2
  go_loop [3, 8] (fun vn vi => ∃ k n : Nat, k ≤ zs.length ∧ vi = .int .i64 k ∧ vn = .int .i64 n ∧ n < 1000003) (fun _ vi => zs.length - (intOf vi).toNat)
  case atStart => exact ⟨0, 0, Nat.zero_le _, rfl, rfl, by omega⟩
  case round =>
    obtain ⟨k, n, hk, rfl, rfl, hn⟩ := hrel
    by_cases hlt : k < zs.length
    · rcases H.out with h3 | ⟨b, off, rfl, hbs, hc⟩
      · subst h3; simp at hlt
      have hc1 := hc k hlt
      clear hc
      obtain ⟨z, hz⟩ : ∃ z, z = zs.getD k 0 := ⟨_, rfl⟩
      have hz256 : z < 256 := by rw [hz]; exact h2 k
      rw [← hz] at hc1
      clear hz
      go_wp2
      go_round
      case rel => exact ⟨k + 1, (31 * n + z) % 1000003, by omega, by go_num, int_eq (by simp), by omega⟩
      case measure => simp [intOf]; omega
    · obtain rfl : k = zs.length := by omega
      go_wp2
      go_ret
      exact ⟨n, hn, rfl, rfl⟩

theorem curS_lt {w : World} {g k : Nat} {cv : Value} (h : CurS w g cv k) : g < w.heap.size := by
  obtain ⟨n, s, _, hh⟩ := h.at_
  exact (Array.getElem?_eq_some_iff.1 hh).1
theorem grown_wide {w w' : World} {g : Nat} (h : w.grownBy w' none) : w.grownBy w' (some g) := ⟨h.os, h.tape, h.output, h.size, fun j hj _ => h.block j hj (by simp)⟩
theorem CurS.made {w w' : World} {g k : Nat} {cv : Value} (h : CurS w g cv k) (hg : w.grownBy w' none) : CurS w' g cv k := by
  obtain ⟨n, s, hn, hh⟩ := h.at_
  exact ⟨⟨n, s, hn, (hg.block g (curS_lt h) (by simp)).trans hh⟩, fun w2 h2 => h.code w2 (grown_trans (grown_wide hg) h2)⟩

/-- The value v is a slice that reads as these texts, in this world. -/
def RdS (w : World) (v : Value) (xs : List ByteArray) : Prop :=
  ∃ b, v = .slice (some ⟨b, 0, none⟩) xs.length xs.length ∧ ∀ i, i < xs.length → w.cell? ⟨b, i, none⟩ = some (.string (xs.getD i ⟨#[]⟩))
theorem rdS_build {w : World} {l : List ByteArray} {g : Nat} (hg : g < w.heap.size) : ∀ w', (w.alloc (.cells (l.map Value.string).toArray 9)).grownBy w' (some g) → RdS w' (.slice (some ⟨w.heap.size, 0, none⟩) l.length l.length) l := by
  intro w' hg'
  refine ⟨w.heap.size, rfl, fun i hi => ?_⟩
  have hb : w'.heap[w.heap.size]? = some (.cells (l.map Value.string).toArray 9 (0, 0)) := by
    rw [hg'.block w.heap.size (by simp) (by simp; omega)]
    exact heap_alloc_new w _
  rw [cell_of_row w' w.heap.size i _ _ _ hb, List.getElem?_toArray, List.getElem?_map, List.getElem?_eq_getElem hi, List.getD_eq_getElem?_getD, List.getElem?_eq_getElem hi]
  rfl

set_option maxRecDepth 100000 in
set_option maxHeartbeats 800000 in
theorem of_calls (g : Nat) (cv v : Value) (xs : List ByteArray) (k m : Nat) (w : World) (h : CurS w g cv k) (hk : k ≤ 1000000000) (hr : ∀ w', w.grownBy w' (some g) → RdS w' v xs) (h0 : 1 ≤ xs.length) (hl : xs.length ≤ 200) (hm : ∀ i, i < xs.length → (xs.getD i ⟨#[]⟩).size ≤ m) :
    Calls Try.prog 67 #[.pointer (some ⟨g, 0, none⟩), v] w fun e w' => ∃ s : ByteArray, s.size ≤ m ∧ e = .returned (.string s) ∧ CurS w' g cv (k + 2) ∧ w.grownBy w' (some g) := by
  have H := hide h
  have R := hide hr
  obtain ⟨b, rfl, _⟩ := hr w (World.grownBy.refl _ _)
  clear h hr
  go_enter Try.func67, Try.ntmps67
  go_wp2_with fail
  refine (pick_calls g cv k xs.length _ H.out hk h0 (by omega)).mono ?_
  rintro e w1 ⟨r1, hr1, rfl, hc1, hg1⟩
  have C1 := hide hc1
  have G1 := hide hg1
  obtain ⟨b', hv, hc⟩ := R.out w1 hg1
  obtain rfl : b = b' := by simp at hv; exact hv
  clear hv hc1 hg1 H
  have hcell := hc r1 hr1
  have hsz := hm r1 hr1
  generalize xs.getD r1 ⟨#[]⟩ = z at hcell hsz
  clear hc
  have t : (r1 : Int) < (xs.length : Int) := by omega
  go_wp2
  go_ret
  exact ⟨z, hsz, rfl, C1.out, G1.out⟩

set_option maxRecDepth 100000 in
set_option maxHeartbeats 400000 in
theorem gf_calls (g : Nat) (cv : Value) (k : Nat) (w : World) (h : CurS w g cv k) (hk : k ≤ 900000000) :
    Calls Try.prog 61 #[.pointer (some ⟨g, 0, none⟩)] w fun e w' => ∃ z : Int, e = .returned (.int .i64 z) ∧ CurS w' g cv (k + 4) ∧ w.grownBy w' (some g) := by
  have H := hide h
  clear h
  go_enter Try.func61, Try.ntmps61
  go_wp2_with fail
  refine (one_calls g cv k 30 _ H.out (by omega) (by omega) (by omega)).mono ?_
  rintro e w1 ⟨b, rfl, hc1, hg1⟩
  have C1 := hide hc1
  have G1 := hide hg1
  have hlt := curS_lt hc1
  clear hc1 hg1 H
  cases b with
  | true =>
    go_wp2_with fail
    refine (among_calls g cv (.slice (some ⟨w1.heap.size, 0, none⟩) 2 2) [-1, 256] (k + 2) _ (C1.out.alloc _) (by omega) (rd_build (l := [-1, 256]) hlt (by decide)) (by decide) (by decide)).mono ?_
    rintro e w2 ⟨z, rfl, hc2, hg2⟩
    have C2 := hide hc2
    have G2 := hide (grown_trans G1.out (grown_trans (World.grownBy_alloc _ _ _) hg2))
    clear hc2 hg2 C1 G1
    go_wp2
    go_ret
    exact ⟨z, rfl, C2.out, G2.out⟩
  | false =>
    go_wp2_with fail
    refine (pick_calls g cv (k + 2) 256 _ C1.out (by omega) (by omega) (by omega)).mono ?_
    rintro e w2 ⟨r, hr, rfl, hc2, hg2⟩
    have C2 := hide hc2
    have G2 := hide (grown_trans G1.out hg2)
    clear hc2 hg2 C1 G1
    go_wp2
    go_ret
    exact ⟨r, rfl, C2.out, G2.out⟩

set_option maxRecDepth 100000 in
set_option maxHeartbeats 1600000 in
theorem long9_calls (g : Nat) (cv : Value) (k : Nat) (w : World) (h : CurS w g cv k) (hk : k ≤ 900000000) :
    Calls Try.prog 52 #[.pointer (some ⟨g, 0, none⟩)] w fun e w' => ∃ s : ByteArray, s.size ≤ 301 ∧ e = .returned (.string s) ∧ CurS w' g cv (k + 30) ∧ w.grownBy w' (some g) := by
  have H := hide h
  clear h
  go_enter Try.func52, Try.ntmps52
  go_wp2_with fail
  refine (pick_calls g cv k 10 _ H.out (by omega) (by omega) (by omega)).mono ?_
  rintro e w2 ⟨r2, hr2, rfl, hc2, hg2⟩
  have C2 := hide hc2
  have G2 := hide hg2
  clear hc2 hg2 H
  go_wp2
  go_loopw [3, 4] (fun vs vn wr => ∃ (j m : Nat) (s : ByteArray), j + m = r2 ∧ vn = .int .i64 m ∧ vs = .string s ∧ s.size ≤ 17 * j ∧ CurS wr g cv (k + 2 + 2 * j) ∧ w.grownBy wr (some g)) (fun _ vn _ => (intOf vn).toNat)
  case atStart => exact ⟨0, r2, ⟨#[]⟩, by omega, rfl, rfl, by decide, C2.out, G2.out⟩
  case round =>
    obtain ⟨j, m, s, hjm, rfl, rfl, hsz, hc, hg⟩ := hrel
    have JM := hide hjm
    have hm5 : m ≤ 9 := by omega
    have hj5 : j ≤ 9 := by omega
    have hlt : g < wr.heap.size := curS_lt hc
    have C3 := hide hc
    have G3 := hide hg
    clear hjm hc hg
    by_cases hm0 : 0 < m
    · have hm0' : (0 : Int) < (m : Int) := by omega
      go_wp2_with fail
      refine (of_calls g cv _ [⟨#[97, 32, 98, 108, 111, 99, 107, 32, 111, 102, 32, 98, 121, 116, 101, 115, 32]⟩, ⟨#[120, 121, 122]⟩, ⟨#[48, 49, 50, 51, 52, 53, 54, 55, 56, 57]⟩, ⟨#[0, 0, 0, 0]⟩, ⟨#[116, 104, 101, 32, 115, 97, 109, 101, 32, 119, 111, 114, 100, 115, 32]⟩, ⟨#[113]⟩] (k + 2 + 2 * j) 17 _ (C3.out.alloc _) (by omega) (rdS_build hlt) (by decide) (by decide) (by decide)).mono ?_
      rintro e w4 ⟨t, ht, rfl, hc4, hg4⟩
      have C4 := hide hc4
      have G4 := hide (grown_trans G3.out (grown_trans (World.grownBy_alloc _ _ _) hg4))
      clear hc4 hg4 C3 G3
      have hadd := run_string_add_sum (P := Try.prog) (w := w4) s t (by omega)
      go_wp2
      go_roundw
      case rel => exact ⟨j + 1, m - 1, s ++ t, by have := JM.out; omega, int_eq (by omega), rfl, by rw [ByteArray.size_append]; omega, C4.out.mono (by omega), G4.out⟩
      case measure => simp [intOf]; omega
    · obtain rfl : m = 0 := by omega
      go_wp2_with fail
      refine (one_calls g cv (k + 2 + 2 * j) 20 _ C3.out (by omega) (by omega) (by omega)).mono ?_
      rintro e w1 ⟨b, rfl, hc1, hg1⟩
      have C1 := hide hc1
      have G1 := hide (grown_trans G3.out hg1)
      clear hc1 hg1 C3 G3
      cases b with
      | true =>
        go_wp2_with fail
        refine (pick_calls g cv (k + 2 + 2 * j + 2) 3 _ C1.out (by omega) (by omega) (by omega)).mono ?_
        rintro e w2 ⟨r3, hr3, rfl, hc2, hg2⟩
        have C2 := hide hc2
        have G2 := hide (grown_trans G1.out hg2)
        clear hc2 hg2 C1 G1
        go_wp2_with (at_make; refine wpList_make_bytes rfl _ _ rfl w2.heap.size _ _ (299 + r3) rfl rfl (by omega) (by omega) (by omega) (Nat.le_refl _) ?_)
        intro w3 hown hgrow
        have hcv := conv_zero hown
        have C3 := hide (C2.out.made hgrow)
        have G3 := hide (grown_trans G2.out (grown_wide hgrow))
        clear hgrow hown C2 G2
        go_wp2
        go_ret
        exact ⟨zst (299 + r3), by rw [zst_size]; omega, rfl, C3.out.mono (by omega), G3.out⟩
      | false =>
        go_wp2
        go_ret
        exact ⟨s, by omega, rfl, C1.out.mono (by omega), G1.out⟩

set_option maxRecDepth 100000 in
theorem drawCutsOf_calls (cv : Value) (w : World) (h : RdB w cv) :
    Calls Try.prog 13 #[cv] w fun e w' => ∃ s : ByteArray, s.size ≤ 301 ∧ e = .returned (.string s) ∧ Below w.heap.size w w' := by
  have C0 := hide (cur_new h)
  obtain ⟨a0, cap0, zs, rfl, _, _, _⟩ := h
  go_enter Try.func13, Try.ntmps13
  go_wp2_with fail
  refine (long9_calls w.heap.size _ 0 _ C0.out (by omega)).mono ?_
  rintro e w1 ⟨s, hs, rfl, hc1, hg1⟩
  have B := hide (cur_below hg1)
  clear hc1 hg1
  go_wp2
  go_ret
  exact ⟨s, hs, rfl, B.out⟩
set_option maxRecDepth 100000 in
theorem drawFingerOf_calls (cv : Value) (w : World) (h : RdB w cv) :
    Calls Try.prog 25 #[cv] w fun e w' => ∃ s : ByteArray, s.size ≤ 4 ∧ e = .returned (.string s) ∧ Below w.heap.size w w' := by
  have C0 := hide (cur_new h)
  obtain ⟨a0, cap0, zs, rfl, _, _, _⟩ := h
  have R := rdS_build (w := w.alloc (.cells #[.slice a0 zs.length cap0, .int .i64 0, .int .u64 0] 67)) (l := [⟨#[97, 98, 99, 100]⟩, ⟨#[255, 255, 255, 255]⟩, ⟨#[0, 0, 0, 1]⟩, ⟨#[97, 98, 99]⟩, ⟨#[48, 49, 50, 51]⟩]) (g := w.heap.size) (by simp)
  have e : (w.alloc (.cells #[.slice a0 zs.length cap0, .int .i64 0, .int .u64 0] 67)).heap.size = w.heap.size + 1 := by simp
  rw [e] at R
  have HR := hide R
  clear R e
  go_enter Try.func25, Try.ntmps25
  go_wp2_with fail
  refine (of_calls w.heap.size _ (.slice (some ⟨w.heap.size + 1, 0, none⟩) 5 5) [⟨#[97, 98, 99, 100]⟩, ⟨#[255, 255, 255, 255]⟩, ⟨#[0, 0, 0, 1]⟩, ⟨#[97, 98, 99]⟩, ⟨#[48, 49, 50, 51]⟩] 0 4 _ (C0.out.alloc _) (by omega) HR.out (by decide) (by decide) (by decide)).mono ?_
  rintro e w1 ⟨s, hs, rfl, hc1, hg1⟩
  have B := hide (cur_below (grown_trans (World.grownBy_alloc _ _ _) hg1))
  clear hc1 hg1
  go_wp2
  go_ret
  exact ⟨s, hs, rfl, B.out⟩
set_option maxRecDepth 100000 in
theorem drawRollOn_calls (cv : Value) (w : World) (h : RdB w cv) :
    Calls Try.prog 22 #[cv] w fun e w' => ∃ x y z : Int, e = .returned (.tuple #[.int .i64 x, .int .i64 y, .int .i64 z]) ∧ Below w.heap.size w w' := by
  have C0 := hide (cur_new h)
  obtain ⟨a0, cap0, zs, rfl, _, _, _⟩ := h
  have R := rd_build (w := w.alloc (.cells #[.slice a0 zs.length cap0, .int .i64 0, .int .u64 0] 67)) (l := [-1, 0, 1, 77, 8190, 8191, 4000]) (g := w.heap.size) (by simp) (by decide)
  have e : (w.alloc (.cells #[.slice a0 zs.length cap0, .int .i64 0, .int .u64 0] 67)).heap.size = w.heap.size + 1 := by simp
  rw [e] at R
  have HR := hide R
  clear R e
  go_enter Try.func22, Try.ntmps22
  go_wp2_with fail
  refine (among_calls w.heap.size _ (.slice (some ⟨w.heap.size + 1, 0, none⟩) 7 7) [-1, 0, 1, 77, 8190, 8191, 4000] 0 _ (C0.out.alloc _) (by omega) HR.out (by decide) (by decide)).mono ?_
  rintro e w1 ⟨x, rfl, hc1, hg1⟩
  have C1 := hide hc1
  have G1 := hide (grown_trans (World.grownBy_alloc _ _ _) hg1)
  clear hc1 hg1
  go_wp2_with fail
  refine (gf_calls w.heap.size _ 2 _ C1.out (by omega)).mono ?_
  rintro e w2 ⟨y, rfl, hc2, hg2⟩
  have C2 := hide hc2
  have G2 := hide (grown_trans G1.out hg2)
  clear hc2 hg2
  go_wp2_with fail
  refine (gf_calls w.heap.size _ 6 _ C2.out (by omega)).mono ?_
  rintro e w3 ⟨z, rfl, hc3, hg3⟩
  have B := hide (cur_below (grown_trans G2.out hg3))
  clear hc3 hg3
  go_wp2
  go_ret3
  exact ⟨x, y, z, rfl, B.out⟩
end Go.Proofs.Ytaamkkfjafedgaa
