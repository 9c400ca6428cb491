/-
  The model's drawing of numbers and texts out of bytes, call by call: each draw returns within its bounds, moves its own cursor on and touches nothing else that was there. Each contract says what it asks.
-/
import Derived.Test.YtpmeidfobhhakaaPtch
namespace Go.Proofs.Ytpmeidfobhhakaa
open Go.RowKit

def AllLt (l : List Nat) : Prop := ∀ i, l.getD i 0 < 256
theorem wrap_i64 (n : Int) : IntKind.i64.wrap n = (n + 9223372036854775808) % 18446744073709551616 - 9223372036854775808 := by
  simp [IntKind.wrap, IntKind.bits, IntKind.signed]
  omega
/-- The value v is a slice that reads as these integers, in this world. -/
def Rd (w : World) (v : Value) (xs : List Int) : Prop :=
  ∃ a cap, v = .slice a xs.length cap ∧ xs.length ≤ cap ∧ (cap ≤ maxLen ∧ (a = none → cap = 0)) ∧ (xs = [] ∨ ∃ b off, a = some ⟨b, off, none⟩ ∧ b < w.heap.size ∧ ∀ i, i < xs.length → w.cell? ⟨b, off + i, none⟩ = some (.int .i64 (xs.getD i 0)))
/-- The value v is a slice of the call's own (its block is base or later) that reads as these integers. -/
abbrev Own (w : World) (base : Nat) (v : Value) (xs : List Int) : Prop := w.ownsRow base 3 1 v xs.length (xs.map (Value.int .i64))

theorem Own.rd {w : World} {base : Nat} {v : Value} {xs : List Int} (h : Own w base v xs) : Rd w v xs := by
  rcases h.2 with ⟨rfl, hn⟩ | ⟨g, cap, cur, rfl, hb, hg, hc, hm, hs, ht⟩
  · have : xs = [] := List.eq_nil_of_length_eq_zero hn
    subst this
    exact ⟨none, 0, rfl, Nat.le_refl _, ⟨Nat.zero_le _, fun _ => rfl⟩, .inl rfl⟩
  · refine ⟨_, cap, rfl, hc, ⟨hm, fun h => by cases h⟩, .inr ⟨g, 0, rfl, (Array.getElem?_eq_some_iff.1 hg).1, fun i hi => ?_⟩⟩
    have := World.ownsRow.cellAt h i (by omega)
    rw [Nat.zero_add, this]
    simp [hi]
/-- The value v is a slice of bytes that can be read, in this world. -/
def RdB (w : World) (v : Value) : Prop :=
  ∃ a cap, ∃ zs : List Nat, v = .slice a zs.length cap ∧ zs.length ≤ 281474976710656 ∧ AllLt zs ∧
    (zs = [] ∨ ∃ b off, a = some ⟨b, off, none⟩ ∧ b < w.heap.size ∧ ∀ i, i < zs.length → w.cell? ⟨b, off + i, none⟩ = some (.int .u8 (zs.getD i 0 : Nat)))
theorem RdB.below {w w' : World} {v : Value} (h : RdB w v) (hb : Below w.heap.size w w') : RdB w' v := by
  obtain ⟨a, cap, zs, rfl, h1, h2, h3⟩ := h
  refine ⟨a, cap, zs, rfl, h1, h2, ?_⟩
  rcases h3 with h3 | ⟨b, off, rfl, hlt, hc⟩
  · exact .inl h3
  · exact .inr ⟨b, off, rfl, Nat.lt_of_lt_of_le hlt hb.size, fun i hi => (hb.cell (p := ⟨b, off + i, none⟩) hlt).trans (hc i hi)⟩
/-- The cursor in block g: over the bytes cv, not further than k. -/
structure CurS (w : World) (g : Nat) (cv : Value) (k : Nat) : Prop where
  at_ : ∃ (n : Nat) (s : Int), n ≤ k ∧ w.heap[g]? = some (.cells #[cv, .int .i64 n, .int .u64 s] 54 (0, 0))
  code : ∀ w', w.grownBy w' (some g) → RdB w' cv
theorem CurS.mono {w : World} {g k k' : Nat} {cv : Value} (h : CurS w g cv k) (hk : k ≤ k') : CurS w g cv k' := by
  obtain ⟨n, s, hn, hh⟩ := h.at_
  exact ⟨⟨n, s, by omega, hh⟩, h.code⟩
theorem CurS.alloc {w : World} {g k : Nat} {cv : Value} (h : CurS w g cv k) (o : Obj) : CurS (w.alloc o) g cv k := by
  obtain ⟨n, s, hn, hh⟩ := h.at_
  have hlt : g < w.heap.size := (Array.getElem?_eq_some_iff.1 hh).1
  exact ⟨⟨n, s, hn, (Below.heap_alloc w o g hlt).trans hh⟩, fun w' hg => h.code w' (grown_trans (World.grownBy_alloc w o _) hg)⟩
theorem i64_small {x : Int} (h0 : 0 ≤ x) (h : x < 256) : IntKind.i64.wrap x = x := by rw [wrap_i64]; omega
theorem u64_and255 (x : Int) (h0 : 0 ≤ x) (h : x < 18446744073709551616) : bits .and .u64 x 255 = x % 256 := by
  obtain ⟨X, rfl⟩ := Int.eq_ofNat_of_zero_le h0
  show IntKind.u64.wrap ((BitVec.ofInt 64 (X : Int) &&& BitVec.ofInt 64 ((255 : Nat) : Int)).toNat : Int) = _
  have e : X &&& 255 = X % 256 := Nat.and_two_pow_sub_one_eq_mod X 8
  rw [BitVec.toNat_and, ofInt_i64, ofInt_i64, Nat.mod_eq_of_lt (by omega), Nat.mod_eq_of_lt (by omega), e, IntKind.wrap_u64]
  omega

theorem cur_moved {w : World} {g n k m m' : Nat} {cv : Value} {s s' : Int} (hh : w.heap[g]? = some (.cells #[cv, .int .i64 n, .int .u64 s] 54 (0, 0))) (hn : n ≤ k) (code : ∀ w', w.grownBy w' (some g) → RdB w' cv) :
    CurS ((((w.drewN m).setCell ⟨g, 1, none⟩ (.int .i64 ((n : Int) + 1))).setCell ⟨g, 2, none⟩ (.int .u64 s')).drewN m') g cv (k + 1) ∧
      w.grownBy ((((w.drewN m).setCell ⟨g, 1, none⟩ (.int .i64 ((n : Int) + 1))).setCell ⟨g, 2, none⟩ (.int .u64 s')).drewN m') (some g) := by
  have h1 : ((w.drewN m).setCell ⟨g, 1, none⟩ (.int .i64 ((n : Int) + 1))).heap[g]? = some (.cells #[cv, .int .i64 ((n : Int) + 1), .int .u64 s] 54 (0, 0)) :=
    heap_setCell_same (w.drewN m) g 1 _ _ _ hh
  have h2 : (((w.drewN m).setCell ⟨g, 1, none⟩ (.int .i64 ((n : Int) + 1))).setCell ⟨g, 2, none⟩ (.int .u64 s')).heap[g]? = some (.cells #[cv, .int .i64 ((n : Int) + 1), .int .u64 s'] 54 (0, 0)) :=
    heap_setCell_same _ g 2 _ _ _ h1
  have hg : w.grownBy ((((w.drewN m).setCell ⟨g, 1, none⟩ (.int .i64 ((n : Int) + 1))).setCell ⟨g, 2, none⟩ (.int .u64 s')).drewN m') (some g) := by
    refine ⟨rfl, rfl, rfl, by simp [World.drewN], fun j _ hj => ?_⟩
    have hne : j ≠ g := fun e => hj (by rw [e])
    exact (Below.heap_setCell _ ⟨g, 2, none⟩ _ j hne).trans (Below.heap_setCell (w.drewN m) ⟨g, 1, none⟩ _ j hne)
  exact ⟨⟨⟨n + 1, s', by omega, by simpa using h2⟩, fun w' hw => code w' (grown_trans hg hw)⟩, hg⟩
theorem seed_bd (x : Int) : ∃ r : Nat, r < 256 ∧ wrap64 (bits .and .u64 (IntKind.u64.wrap x / 1099511627776) 255) = (r : Int) := by
  have h0 : 0 ≤ IntKind.u64.wrap x := wrap_u64_nonneg x
  have h1 : IntKind.u64.wrap x < 18446744073709551616 := by rw [IntKind.wrap_u64]; omega
  rw [u64_and255 _ (by omega) (by omega)]
  refine ⟨(IntKind.u64.wrap x / 1099511627776 % 256).toNat, by omega, ?_⟩
  unfold wrap64
  omega

set_option maxRecDepth 100000 in
set_option maxHeartbeats 1600000 in
theorem next_calls (g : Nat) (cv : Value) (k : Nat) (w : World) (h : CurS w g cv k) (hk : k ≤ 1073741824) :
    Calls Try.prog 48 #[.pointer (some ⟨g, 0, none⟩)] w fun e w' => ∃ r : Nat, r < 256 ∧ e = .returned (.int .i64 r) ∧ CurS w' g cv (k + 1) ∧ w.grownBy w' (some g) := by
  obtain ⟨n, s, hn, hh⟩ := h.at_
  have C := hide h.code
  have hR := h.code w (World.grownBy.refl _ _)
  obtain ⟨a, cap, zs, rfl, hz1, hz2, h3⟩ := hR
  have hc0 : w.cell? ⟨g, 0, none⟩ = some (.slice a zs.length cap) := by rw [cell_of_row w g 0 _ _ _ hh]; rfl
  have hc1 : w.cell? ⟨g, 1, none⟩ = some (.int .i64 n) := by rw [cell_of_row w g 1 _ _ _ hh]; rfl
  have hc2 : w.cell? ⟨g, 2, none⟩ = some (.int .u64 s) := by rw [cell_of_row w g 2 _ _ _ hh]; rfl
  have hf1 : w.frozen? ⟨g, 1, none⟩ = false := frozen_of_row w g 1 _ _ hh
  have hf2 : w.frozen? ⟨g, 2, none⟩ = false := frozen_of_row w g 2 _ _ hh
  have HH := hide hh
  clear hh h
  by_cases hlt : n < zs.length
  · rcases h3 with h3 | ⟨b, off, rfl, hbs, hcz⟩
    · subst h3; simp at hlt
    have hz := hcz n hlt
    clear hcz
    obtain ⟨z, hzz⟩ : ∃ z, z = zs.getD n 0 := ⟨_, rfl⟩
    have hz256 : z < 256 := by rw [hzz]; exact hz2 n
    rw [← hzz] at hz
    clear hzz
    have t1 : (n : Int) < (zs.length : Int) := by omega
    have t2 : (n : Int) + 1 ≤ (zs.length : Int) := by omega
    go_enter Try.func48, Try.ntmps48
    go_wp2
    go_quiet (fail)
    go_wp2
    go_quiet (fail)
    go_wp2
    go_quiet (fail)
    go_wp2
    go_ret
    exact ⟨z, hz256, rfl, cur_moved HH.out hn C.out⟩
  · clear h3
    have t1 : ¬ (n : Int) < (zs.length : Int) := by omega
    have t2 : ¬ (n : Int) + 1 ≤ (zs.length : Int) := by omega
    go_enter Try.func48, Try.ntmps48
    go_wp2
    go_quiet (fail)
    go_wp2
    go_quiet (fail)
    go_wp2
    go_ret
    obtain ⟨r, hr, e⟩ := seed_bd (IntKind.u64.wrap (IntKind.u64.wrap (s * 6364136223846793005)) + 1442695040888963407)
    exact ⟨r, hr, ret_int e, cur_moved HH.out hn C.out⟩

set_option maxRecDepth 100000 in
set_option maxHeartbeats 800000 in
theorem pick_calls (g : Nat) (cv : Value) (k n : Nat) (w : World) (h : CurS w g cv k) (hk : k ≤ 1000000000) (hn0 : 1 ≤ n) (hn : n ≤ 65536) :
    Calls Try.prog 36 #[.pointer (some ⟨g, 0, none⟩), .int .i64 n] w fun e w' => ∃ r : Nat, r < n ∧ e = .returned (.int .i64 r) ∧ CurS w' g cv (k + 2) ∧ w.grownBy w' (some g) := by
  have H := hide h
  clear h
  by_cases h1 : n ≤ 1
  · have t : (n : Int) ≤ 1 := by omega
    go_enter Try.func36, Try.ntmps36
    go_wp2
    go_ret
    exact ⟨0, by omega, rfl, H.out.mono (by omega), World.grownBy.refl _ _⟩
  · have t : ¬ (n : Int) ≤ 1 := by omega
    by_cases h2 : 200 < n
    · have t2 : (200 : Int) < (n : Int) := by omega
      go_enter Try.func36, Try.ntmps36
      go_wp2_with fail
      refine (next_calls g cv k _ H.out (by omega)).mono ?_
      rintro e w1 ⟨r1, hr1, rfl, hc1, hg1⟩
      have C1 := hide hc1
      have G1 := hide hg1
      clear hc1 hg1 H
      go_wp2_with fail
      refine (next_calls g cv (k + 1) _ C1.out (by omega)).mono ?_
      rintro e w2 ⟨r2, hr2, rfl, hc2, hg2⟩
      have C2 := hide hc2
      have G2 := hide (grown_trans G1.out hg2)
      clear hc2 hg2
      have hnz : ((n : Int) == 0) = false := by simp; omega
      have hnz' : (n : Int) ≠ 0 := by omega
      go_wp2
      go_ret
      exact ⟨(r1 * 256 + r2) % n, Nat.mod_lt _ (by omega), ret_int (by simp), C2.out, G2.out⟩
    · have t2 : ¬ (200 : Int) < (n : Int) := by omega
      go_enter Try.func36, Try.ntmps36
      go_wp2_with fail
      refine (next_calls g cv k _ H.out (by omega)).mono ?_
      rintro e w1 ⟨r1, hr1, rfl, hc1, hg1⟩
      have C1 := hide hc1
      have G1 := hide hg1
      clear hc1 hg1 H
      have hnz : ((n : Int) == 0) = false := by simp; omega
      have hnz' : (n : Int) ≠ 0 := by omega
      go_wp2
      go_ret
      exact ⟨r1 % n, Nat.mod_lt _ (by omega), ret_int (by simp), C1.out.mono (by omega), G1.out⟩

set_option maxRecDepth 100000 in
theorem one_calls (g : Nat) (cv : Value) (k n : Nat) (w : World) (h : CurS w g cv k) (hk : k ≤ 1000000000) (hn0 : 1 ≤ n) (hn : n ≤ 65536) :
    Calls Try.prog 34 #[.pointer (some ⟨g, 0, none⟩), .int .i64 n] w fun e w' => ∃ b : Bool, e = .returned (.bool b) ∧ CurS w' g cv (k + 2) ∧ w.grownBy w' (some g) := by
  have H := hide h
  clear h
  go_enter Try.func34, Try.ntmps34
  go_wp2_with fail
  refine (pick_calls g cv k n _ H.out hk hn0 hn).mono ?_
  rintro e w1 ⟨r1, hr1, rfl, hc1, hg1⟩
  have C1 := hide hc1
  have G1 := hide hg1
  clear hc1 hg1 H
  go_wp2
  go_ret
  exact ⟨_, rfl, C1.out, G1.out⟩

set_option maxRecDepth 100000 in
set_option maxHeartbeats 800000 in
theorem among_calls (g : Nat) (cv v : Value) (xs : List Int) (k : Nat) (w : World) (h : CurS w g cv k) (hk : k ≤ 1000000000) (hr : ∀ w', w.grownBy w' (some g) → Rd w' v xs) (h0 : 1 ≤ xs.length) (hl : xs.length ≤ 200) :
    Calls Try.prog 42 #[.pointer (some ⟨g, 0, none⟩), v] w fun e w' => ∃ z : Int, e = .returned (.int .i64 z) ∧ CurS w' g cv (k + 2) ∧ w.grownBy w' (some g) := by
  have H := hide h
  have R := hide hr
  have hr0 := hr w (World.grownBy.refl _ _)
  obtain ⟨a, cap, rfl, _, _, _⟩ := hr0
  clear h hr
  go_enter Try.func42, Try.ntmps42
  go_wp2_with fail
  refine (pick_calls g cv k xs.length _ H.out hk h0 (by omega)).mono ?_
  rintro e w1 ⟨r1, hr1, rfl, hc1, hg1⟩
  have C1 := hide hc1
  have G1 := hide hg1
  obtain ⟨a', cap', hv, _, _, h3⟩ := R.out w1 hg1
  have hv2 : a' = a := by simp at hv; exact hv.1.symm
  subst hv2
  clear hv hc1 hg1 H
  rcases h3 with h3 | ⟨b, off, rfl, hbs, hc⟩
  · subst h3; simp at h0
  have hcell := hc r1 hr1
  obtain ⟨z, hz⟩ : ∃ z, z = xs.getD r1 0 := ⟨_, rfl⟩
  rw [← hz] at hcell
  clear hz hc
  have t : (r1 : Int) < (xs.length : Int) := by omega
  go_wp2
  go_ret
  exact ⟨z, rfl, C1.out, G1.out⟩

theorem rd_build {w : World} {l : List Int} {g : Nat} (hg : g < w.heap.size) (hm : l.length ≤ maxLen) : ∀ w', (w.alloc (.cells (l.map (Value.int .i64)).toArray 3)).grownBy w' (some g) → Rd w' (.slice (some ⟨w.heap.size, 0, none⟩) l.length l.length) l := by
  intro w' hg'
  have hO : Own (w.alloc (.cells (l.map (Value.int .i64)).toArray 3)) w.heap.size (.slice (some ⟨w.heap.size, 0, none⟩) l.length l.length) l := by
    have := World.ownsRow_lit (base := w.heap.size) (e := 3) (size := 1) w (l.map (Value.int .i64)).toArray l.length (Nat.le_refl _) hm (by simp)
    simpa using this
  exact Own.rd (World.ownsRow.kept hO hg' (.inr (by simp [Value.ownBlock]; omega)))


theorem cur_new {w : World} {cv : Value} (h : RdB w cv) : CurS (w.alloc (.cells #[cv, .int .i64 0, .int .u64 0] 54)) w.heap.size cv 0 := by
  refine ⟨⟨0, 0, Nat.le_refl _, heap_alloc_new w _⟩, fun w' hg => ?_⟩
  have hb : Below w.heap.size w w' := ((Below.refl _ _).alloc (Nat.le_refl _) _).grown hg (by simp) (fun k hk => by simp at hk; omega)
  exact h.below hb

theorem cur_below {w w' : World} {cv : Value} (hg : (w.alloc (.cells #[cv, .int .i64 0, .int .u64 0] 54)).grownBy w' (some w.heap.size)) : Below w.heap.size w w' :=
  ((Below.refl _ _).alloc (Nat.le_refl _) _).grown hg (by simp) (fun k hk => by simp at hk; omega)



set_option maxRecDepth 100000 in
set_option maxHeartbeats 800000 in
theorem numberOf_calls (cv : Value) (w : World) (h : RdB w cv) :
    Calls Try.prog 17 #[cv] w fun e w' => ∃ n : Nat, n < 1000003 ∧ e = .returned (.int .i64 n) ∧ w = w' := by
  obtain ⟨a, cap, zs, rfl, h1, h2, h3⟩ := h
  have H := hide h3
  clear h3
  go_enter Try.func17, Try.ntmps17
  go_wp2
  go_loop [3, 8] (fun vn vi => ∃ k n : Nat, k ≤ zs.length ∧ vi = .int .i64 k ∧ vn = .int .i64 n ∧ n < 1000003) (fun _ vi => zs.length - (intOf vi).toNat)
  case atStart => exact ⟨0, 0, Nat.zero_le _, rfl, rfl, by omega⟩
  case round =>
    obtain ⟨k, n, hk, rfl, rfl, hn⟩ := hrel
    by_cases hlt : k < zs.length
    · rcases H.out with h3 | ⟨b, off, rfl, hbs, hc⟩
      · subst h3; simp at hlt
      have hc1 := hc k hlt
      clear hc
      obtain ⟨z, hz⟩ : ∃ z, z = zs.getD k 0 := ⟨_, rfl⟩
      have hz256 : z < 256 := by rw [hz]; exact h2 k
      rw [← hz] at hc1
      clear hz
      go_wp2
      go_round
      case rel => exact ⟨k + 1, (31 * n + z) % 1000003, by omega, by go_num, int_eq (by simp), by omega⟩
      case measure => simp [intOf]; omega
    · obtain rfl : k = zs.length := by omega
      go_wp2
      go_ret
      exact ⟨n, hn, rfl, rfl⟩

theorem curS_lt {w : World} {g k : Nat} {cv : Value} (h : CurS w g cv k) : g < w.heap.size := by
  obtain ⟨n, s, _, hh⟩ := h.at_
  exact (Array.getElem?_eq_some_iff.1 hh).1
theorem grown_wide {w w' : World} {g : Nat} (h : w.grownBy w' none) : w.grownBy w' (some g) := ⟨h.os, h.tape, h.output, h.size, fun j hj _ => h.block j hj (by simp)⟩
theorem CurS.made {w w' : World} {g k : Nat} {cv : Value} (h : CurS w g cv k) (hg : w.grownBy w' none) : CurS w' g cv k := by
  obtain ⟨n, s, hn, hh⟩ := h.at_
  exact ⟨⟨n, s, hn, (hg.block g (curS_lt h) (by simp)).trans hh⟩, fun w2 h2 => h.code w2 (grown_trans (grown_wide hg) h2)⟩

/-- The value v is a slice that reads as these texts, in this world. -/
def RdS (w : World) (v : Value) (xs : List ByteArray) : Prop :=
  ∃ b, v = .slice (some ⟨b, 0, none⟩) xs.length xs.length ∧ ∀ i, i < xs.length → w.cell? ⟨b, i, none⟩ = some (.string (xs.getD i ⟨#[]⟩))
theorem rdS_build {w : World} {l : List ByteArray} {g : Nat} (hg : g < w.heap.size) : ∀ w', (w.alloc (.cells (l.map Value.string).toArray 9)).grownBy w' (some g) → RdS w' (.slice (some ⟨w.heap.size, 0, none⟩) l.length l.length) l := by
  intro w' hg'
  refine ⟨w.heap.size, rfl, fun i hi => ?_⟩
  have hb : w'.heap[w.heap.size]? = some (.cells (l.map Value.string).toArray 9 (0, 0)) := by
    rw [hg'.block w.heap.size (by simp) (by simp; omega)]
    exact heap_alloc_new w _
  rw [cell_of_row w' w.heap.size i _ _ _ hb, List.getElem?_toArray, List.getElem?_map, List.getElem?_eq_getElem hi, List.getD_eq_getElem?_getD, List.getElem?_eq_getElem hi]
  rfl

set_option maxRecDepth 100000 in
set_option maxHeartbeats 800000 in
theorem of_calls (g : Nat) (cv v : Value) (xs : List ByteArray) (k m : Nat) (w : World) (h : CurS w g cv k) (hk : k ≤ 1000000000) (hr : ∀ w', w.grownBy w' (some g) → RdS w' v xs) (h0 : 1 ≤ xs.length) (hl : xs.length ≤ 200) (hm : ∀ i, i < xs.length → (xs.getD i ⟨#[]⟩).size ≤ m) :
    Calls Try.prog 35 #[.pointer (some ⟨g, 0, none⟩), v] w fun e w' => ∃ s : ByteArray, s.size ≤ m ∧ e = .returned (.string s) ∧ CurS w' g cv (k + 2) ∧ w.grownBy w' (some g) := by
  have H := hide h
  have R := hide hr
  obtain ⟨b, rfl, _⟩ := hr w (World.grownBy.refl _ _)
  clear h hr
  go_enter Try.func35, Try.ntmps35
  go_wp2_with fail
  refine (pick_calls g cv k xs.length _ H.out hk h0 (by omega)).mono ?_
  rintro e w1 ⟨r1, hr1, rfl, hc1, hg1⟩
  have C1 := hide hc1
  have G1 := hide hg1
  obtain ⟨b', hv, hc⟩ := R.out w1 hg1
  obtain rfl : b = b' := by simp at hv; exact hv
  clear hv hc1 hg1 H
  have hcell := hc r1 hr1
  have hsz := hm r1 hr1
  generalize xs.getD r1 ⟨#[]⟩ = z at hcell hsz
  clear hc
  have t : (r1 : Int) < (xs.length : Int) := by omega
  go_wp2
  go_ret
  exact ⟨z, hsz, rfl, C1.out, G1.out⟩

end Go.Proofs.Ytpmeidfobhhakaa
