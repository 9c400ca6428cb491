/-
  The model's drawing of numbers and texts out of bytes, call by call: each draw returns within its bounds, moves its own cursor on and touches nothing else that was there. Each contract says what it asks. Bytes that came in: what reading them tells. No condition. Lists of numbers, and of texts, held against each other by the laws, where they are alike, call by call. No condition. Texts put together, and counted: the program's JoinChunks and its model's, call by call. Each says what it asks of the texts' sizes.
-/
import Derived.Test.YthmijjcddjlebaaDedupB3
import Derived.Test.YthmijjcddjlebaaDedupB0
import Derived.Lib.AppendStr
namespace Go.Proofs.Ythmijjcddjlebaa
open Go.RowKit

def AllLt (l : List Nat) : Prop := ∀ i, l.getD i 0 < 256
theorem wrap_i64 (n : Int) : IntKind.i64.wrap n = (n + 9223372036854775808) % 18446744073709551616 - 9223372036854775808 := by
  simp [IntKind.wrap, IntKind.bits, IntKind.signed]
  omega
/-- The value v is a slice of bytes that can be read, in this world. -/
def RdB (w : World) (v : Value) : Prop :=
  ∃ a cap, ∃ zs : List Nat, v = .slice a zs.length cap ∧ zs.length ≤ 281474976710656 ∧ AllLt zs ∧
    (zs = [] ∨ ∃ b off, a = some ⟨b, off, none⟩ ∧ b < w.heap.size ∧ ∀ i, i < zs.length → w.cell? ⟨b, off + i, none⟩ = some (.int .u8 (zs.getD i 0 : Nat)))
theorem RdB.below {w w' : World} {v : Value} (h : RdB w v) (hb : Below w.heap.size w w') : RdB w' v := by
  obtain ⟨a, cap, zs, rfl, h1, h2, h3⟩ := h
  refine ⟨a, cap, zs, rfl, h1, h2, ?_⟩
  rcases h3 with h3 | ⟨b, off, rfl, hlt, hc⟩
  · exact .inl h3
  · exact .inr ⟨b, off, rfl, Nat.lt_of_lt_of_le hlt hb.size, fun i hi => (hb.cell (p := ⟨b, off + i, none⟩) hlt).trans (hc i hi)⟩
/-- The cursor in block g: over the bytes cv, not further than k. -/
structure CurS (w : World) (g : Nat) (cv : Value) (k : Nat) : Prop where
  at_ : ∃ (n : Nat) (s : Int), n ≤ k ∧ w.heap[g]? = some (.cells #[cv, .int .i64 n, .int .u64 s] 77 (0, 0))
  code : ∀ w', w.grownBy w' (some g) → RdB w' cv
theorem CurS.mono {w : World} {g k k' : Nat} {cv : Value} (h : CurS w g cv k) (hk : k ≤ k') : CurS w g cv k' := by
  obtain ⟨n, s, hn, hh⟩ := h.at_
  exact ⟨⟨n, s, by omega, hh⟩, h.code⟩
theorem CurS.alloc {w : World} {g k : Nat} {cv : Value} (h : CurS w g cv k) (o : Obj) : CurS (w.alloc o) g cv k := by
  obtain ⟨n, s, hn, hh⟩ := h.at_
  have hlt : g < w.heap.size := (Array.getElem?_eq_some_iff.1 hh).1
  exact ⟨⟨n, s, hn, (Below.heap_alloc w o g hlt).trans hh⟩, fun w' hg => h.code w' (grown_trans (World.grownBy_alloc w o _) hg)⟩
theorem i64_small {x : Int} (h0 : 0 ≤ x) (h : x < 256) : IntKind.i64.wrap x = x := by rw [wrap_i64]; omega
theorem u64_and255 (x : Int) (h0 : 0 ≤ x) (h : x < 18446744073709551616) : bits .and .u64 x 255 = x % 256 := by
  obtain ⟨X, rfl⟩ := Int.eq_ofNat_of_zero_le h0
  show IntKind.u64.wrap ((BitVec.ofInt 64 (X : Int) &&& BitVec.ofInt 64 ((255 : Nat) : Int)).toNat : Int) = _
  have e : X &&& 255 = X % 256 := Nat.and_two_pow_sub_one_eq_mod X 8
  rw [BitVec.toNat_and, ofInt_i64, ofInt_i64, Nat.mod_eq_of_lt (by omega), Nat.mod_eq_of_lt (by omega), e, IntKind.wrap_u64]
  omega

theorem cur_moved {w : World} {g n k m m' : Nat} {cv : Value} {s s' : Int} (hh : w.heap[g]? = some (.cells #[cv, .int .i64 n, .int .u64 s] 77 (0, 0))) (hn : n ≤ k) (code : ∀ w', w.grownBy w' (some g) → RdB w' cv) :
    CurS ((((w.drewN m).setCell ⟨g, 1, none⟩ (.int .i64 ((n : Int) + 1))).setCell ⟨g, 2, none⟩ (.int .u64 s')).drewN m') g cv (k + 1) ∧
      w.grownBy ((((w.drewN m).setCell ⟨g, 1, none⟩ (.int .i64 ((n : Int) + 1))).setCell ⟨g, 2, none⟩ (.int .u64 s')).drewN m') (some g) := by
  have h1 : ((w.drewN m).setCell ⟨g, 1, none⟩ (.int .i64 ((n : Int) + 1))).heap[g]? = some (.cells #[cv, .int .i64 ((n : Int) + 1), .int .u64 s] 77 (0, 0)) :=
    heap_setCell_same (w.drewN m) g 1 _ _ _ hh
  have h2 : (((w.drewN m).setCell ⟨g, 1, none⟩ (.int .i64 ((n : Int) + 1))).setCell ⟨g, 2, none⟩ (.int .u64 s')).heap[g]? = some (.cells #[cv, .int .i64 ((n : Int) + 1), .int .u64 s'] 77 (0, 0)) :=
    heap_setCell_same _ g 2 _ _ _ h1
  have hg : w.grownBy ((((w.drewN m).setCell ⟨g, 1, none⟩ (.int .i64 ((n : Int) + 1))).setCell ⟨g, 2, none⟩ (.int .u64 s')).drewN m') (some g) := by
    refine ⟨rfl, rfl, rfl, by simp [World.drewN], fun j _ hj => ?_⟩
    have hne : j ≠ g := fun e => hj (by rw [e])
    exact (Below.heap_setCell _ ⟨g, 2, none⟩ _ j hne).trans (Below.heap_setCell (w.drewN m) ⟨g, 1, none⟩ _ j hne)
  exact ⟨⟨⟨n + 1, s', by omega, by simpa using h2⟩, fun w' hw => code w' (grown_trans hg hw)⟩, hg⟩
theorem seed_bd (x : Int) : ∃ r : Nat, r < 256 ∧ wrap64 (bits .and .u64 (IntKind.u64.wrap x / 1099511627776) 255) = (r : Int) := by
  have h0 : 0 ≤ IntKind.u64.wrap x := wrap_u64_nonneg x
  have h1 : IntKind.u64.wrap x < 18446744073709551616 := by rw [IntKind.wrap_u64]; omega
  rw [u64_and255 _ (by omega) (by omega)]
  refine ⟨(IntKind.u64.wrap x / 1099511627776 % 256).toNat, by omega, ?_⟩
  unfold wrap64
  omega

set_option maxRecDepth 100000 in
set_option maxHeartbeats 1600000 in
theorem next_calls (g : Nat) (cv : Value) (k : Nat) (w : World) (h : CurS w g cv k) (hk : k ≤ 1073741824) :
    Calls Try.prog 116 #[.pointer (some ⟨g, 0, none⟩)] w fun e w' => ∃ r : Nat, r < 256 ∧ e = .returned (.int .i64 r) ∧ CurS w' g cv (k + 1) ∧ w.grownBy w' (some g) := by
  obtain ⟨n, s, hn, hh⟩ := h.at_
  have C := hide h.code
  have hR := h.code w (World.grownBy.refl _ _)
  obtain ⟨a, cap, zs, rfl, hz1, hz2, h3⟩ := hR
  have hc0 : w.cell? ⟨g, 0, none⟩ = some (.slice a zs.length cap) := by rw [cell_of_row w g 0 _ _ _ hh]; rfl
  have hc1 : w.cell? ⟨g, 1, none⟩ = some (.int .i64 n) := by rw [cell_of_row w g 1 _ _ _ hh]; rfl
  have hc2 : w.cell? ⟨g, 2, none⟩ = some (.int .u64 s) := by rw [cell_of_row w g 2 _ _ _ hh]; rfl
  have hf1 : w.frozen? ⟨g, 1, none⟩ = false := frozen_of_row w g 1 _ _ hh
  have hf2 : w.frozen? ⟨g, 2, none⟩ = false := frozen_of_row w g 2 _ _ hh
  have HH := hide hh
  clear hh h
  by_cases hlt : n < zs.length
  · rcases h3 with h3 | ⟨b, off, rfl, hbs, hcz⟩
    · subst h3; simp at hlt
    have hz := hcz n hlt
    clear hcz
    obtain ⟨z, hzz⟩ : ∃ z, z = zs.getD n 0 := ⟨_, rfl⟩
    have hz256 : z < 256 := by rw [hzz]; exact hz2 n
    rw [← hzz] at hz
    clear hzz
    have t1 : (n : Int) < (zs.length : Int) := by omega
    have t2 : (n : Int) + 1 ≤ (zs.length : Int) := by omega
    go_enter Try.func116, Try.ntmps116
    go_wp2
    go_quiet (fail)
    go_wp2
    go_quiet (fail)
    go_wp2
    go_quiet (fail)
    go_wp2
    go_ret
    exact ⟨z, hz256, rfl, cur_moved HH.out hn C.out⟩
  · clear h3
    have t1 : ¬ (n : Int) < (zs.length : Int) := by omega
    have t2 : ¬ (n : Int) + 1 ≤ (zs.length : Int) := by omega
    go_enter Try.func116, Try.ntmps116
    go_wp2
    go_quiet (fail)
    go_wp2
    go_quiet (fail)
    go_wp2
    go_ret
    obtain ⟨r, hr, e⟩ := seed_bd (IntKind.u64.wrap (IntKind.u64.wrap (s * 6364136223846793005)) + 1442695040888963407)
    exact ⟨r, hr, ret_int e, cur_moved HH.out hn C.out⟩

set_option maxRecDepth 100000 in
set_option maxHeartbeats 800000 in
theorem pick_calls (g : Nat) (cv : Value) (k n : Nat) (w : World) (h : CurS w g cv k) (hk : k ≤ 1000000000) (hn0 : 1 ≤ n) (hn : n ≤ 65536) :
    Calls Try.prog 57 #[.pointer (some ⟨g, 0, none⟩), .int .i64 n] w fun e w' => ∃ r : Nat, r < n ∧ e = .returned (.int .i64 r) ∧ CurS w' g cv (k + 2) ∧ w.grownBy w' (some g) := by
  have H := hide h
  clear h
  by_cases h1 : n ≤ 1
  · have t : (n : Int) ≤ 1 := by omega
    go_enter Try.func57, Try.ntmps57
    go_wp2
    go_ret
    exact ⟨0, by omega, rfl, H.out.mono (by omega), World.grownBy.refl _ _⟩
  · have t : ¬ (n : Int) ≤ 1 := by omega
    by_cases h2 : 200 < n
    · have t2 : (200 : Int) < (n : Int) := by omega
      go_enter Try.func57, Try.ntmps57
      go_wp2_with fail
      refine (next_calls g cv k _ H.out (by omega)).mono ?_
      rintro e w1 ⟨r1, hr1, rfl, hc1, hg1⟩
      have C1 := hide hc1
      have G1 := hide hg1
      clear hc1 hg1 H
      go_wp2_with fail
      refine (next_calls g cv (k + 1) _ C1.out (by omega)).mono ?_
      rintro e w2 ⟨r2, hr2, rfl, hc2, hg2⟩
      have C2 := hide hc2
      have G2 := hide (grown_trans G1.out hg2)
      clear hc2 hg2
      have hnz : ((n : Int) == 0) = false := by simp; omega
      have hnz' : (n : Int) ≠ 0 := by omega
      go_wp2
      go_ret
      exact ⟨(r1 * 256 + r2) % n, Nat.mod_lt _ (by omega), ret_int (by simp), C2.out, G2.out⟩
    · have t2 : ¬ (200 : Int) < (n : Int) := by omega
      go_enter Try.func57, Try.ntmps57
      go_wp2_with fail
      refine (next_calls g cv k _ H.out (by omega)).mono ?_
      rintro e w1 ⟨r1, hr1, rfl, hc1, hg1⟩
      have C1 := hide hc1
      have G1 := hide hg1
      clear hc1 hg1 H
      have hnz : ((n : Int) == 0) = false := by simp; omega
      have hnz' : (n : Int) ≠ 0 := by omega
      go_wp2
      go_ret
      exact ⟨r1 % n, Nat.mod_lt _ (by omega), ret_int (by simp), C1.out.mono (by omega), G1.out⟩

set_option maxRecDepth 100000 in
theorem one_calls (g : Nat) (cv : Value) (k n : Nat) (w : World) (h : CurS w g cv k) (hk : k ≤ 1000000000) (hn0 : 1 ≤ n) (hn : n ≤ 65536) :
    Calls Try.prog 58 #[.pointer (some ⟨g, 0, none⟩), .int .i64 n] w fun e w' => ∃ b : Bool, e = .returned (.bool b) ∧ CurS w' g cv (k + 2) ∧ w.grownBy w' (some g) := by
  have H := hide h
  clear h
  go_enter Try.func58, Try.ntmps58
  go_wp2_with fail
  refine (pick_calls g cv k n _ H.out hk hn0 hn).mono ?_
  rintro e w1 ⟨r1, hr1, rfl, hc1, hg1⟩
  have C1 := hide hc1
  have G1 := hide hg1
  clear hc1 hg1 H
  go_wp2
  go_ret
  exact ⟨_, rfl, C1.out, G1.out⟩

theorem rd_build {w : World} {l : List Int} {g : Nat} (hg : g < w.heap.size) (hm : l.length ≤ maxLen) : ∀ w', (w.alloc (.cells (l.map (Value.int .i64)).toArray 3)).grownBy w' (some g) → Rd w' (.slice (some ⟨w.heap.size, 0, none⟩) l.length l.length) l := by
  intro w' hg'
  have hO : Own (w.alloc (.cells (l.map (Value.int .i64)).toArray 3)) w.heap.size (.slice (some ⟨w.heap.size, 0, none⟩) l.length l.length) l := by
    have := World.ownsRow_lit (base := w.heap.size) (e := 3) (size := 1) w (l.map (Value.int .i64)).toArray l.length (Nat.le_refl _) hm (by simp)
    simpa using this
  exact Own.rd (World.ownsRow.kept hO hg' (.inr (by simp [Value.ownBlock]; omega)))


theorem cur_new {w : World} {cv : Value} (h : RdB w cv) : CurS (w.alloc (.cells #[cv, .int .i64 0, .int .u64 0] 77)) w.heap.size cv 0 := by
  refine ⟨⟨0, 0, Nat.le_refl _, heap_alloc_new w _⟩, fun w' hg => ?_⟩
  have hb : Below w.heap.size w w' := ((Below.refl _ _).alloc (Nat.le_refl _) _).grown hg (by simp) (fun k hk => by simp at hk; omega)
  exact h.below hb

theorem cur_below {w w' : World} {cv : Value} (hg : (w.alloc (.cells #[cv, .int .i64 0, .int .u64 0] 77)).grownBy w' (some w.heap.size)) : Below w.heap.size w w' :=
  ((Below.refl _ _).alloc (Nat.le_refl _) _).grown hg (by simp) (fun k hk => by simp at hk; omega)



theorem curS_lt {w : World} {g k : Nat} {cv : Value} (h : CurS w g cv k) : g < w.heap.size := by
  obtain ⟨n, s, _, hh⟩ := h.at_
  exact (Array.getElem?_eq_some_iff.1 hh).1
theorem grown_wide {w w' : World} {g : Nat} (h : w.grownBy w' none) : w.grownBy w' (some g) := ⟨h.os, h.tape, h.output, h.size, fun j hj _ => h.block j hj (by simp)⟩
theorem CurS.made {w w' : World} {g k : Nat} {cv : Value} (h : CurS w g cv k) (hg : w.grownBy w' none) : CurS w' g cv k := by
  obtain ⟨n, s, hn, hh⟩ := h.at_
  exact ⟨⟨n, s, hn, (hg.block g (curS_lt h) (by simp)).trans hh⟩, fun w2 h2 => h.code w2 (grown_trans (grown_wide hg) h2)⟩

/-- The value v is a slice that reads as these texts, in this world. -/
def RdS (w : World) (v : Value) (xs : List ByteArray) : Prop :=
  ∃ b, v = .slice (some ⟨b, 0, none⟩) xs.length xs.length ∧ ∀ i, i < xs.length → w.cell? ⟨b, i, none⟩ = some (.string (xs.getD i ⟨#[]⟩))
theorem rdS_build {w : World} {l : List ByteArray} {g : Nat} (hg : g < w.heap.size) : ∀ w', (w.alloc (.cells (l.map Value.string).toArray 9)).grownBy w' (some g) → RdS w' (.slice (some ⟨w.heap.size, 0, none⟩) l.length l.length) l := by
  intro w' hg'
  refine ⟨w.heap.size, rfl, fun i hi => ?_⟩
  have hb : w'.heap[w.heap.size]? = some (.cells (l.map Value.string).toArray 9 (0, 0)) := by
    rw [hg'.block w.heap.size (by simp) (by simp; omega)]
    exact heap_alloc_new w _
  rw [cell_of_row w' w.heap.size i _ _ _ hb, List.getElem?_toArray, List.getElem?_map, List.getElem?_eq_getElem hi, List.getD_eq_getElem?_getD, List.getElem?_eq_getElem hi]
  rfl

set_option maxRecDepth 100000 in
set_option maxHeartbeats 800000 in
theorem of_calls (g : Nat) (cv v : Value) (xs : List ByteArray) (k m : Nat) (w : World) (h : CurS w g cv k) (hk : k ≤ 1000000000) (hr : ∀ w', w.grownBy w' (some g) → RdS w' v xs) (h0 : 1 ≤ xs.length) (hl : xs.length ≤ 200) (hm : ∀ i, i < xs.length → (xs.getD i ⟨#[]⟩).size ≤ m) :
    Calls Try.prog 60 #[.pointer (some ⟨g, 0, none⟩), v] w fun e w' => ∃ s : ByteArray, s.size ≤ m ∧ e = .returned (.string s) ∧ CurS w' g cv (k + 2) ∧ w.grownBy w' (some g) := by
  have H := hide h
  have R := hide hr
  obtain ⟨b, rfl, _⟩ := hr w (World.grownBy.refl _ _)
  clear h hr
  go_enter Try.func60, Try.ntmps60
  go_wp2_with fail
  refine (pick_calls g cv k xs.length _ H.out hk h0 (by omega)).mono ?_
  rintro e w1 ⟨r1, hr1, rfl, hc1, hg1⟩
  have C1 := hide hc1
  have G1 := hide hg1
  obtain ⟨b', hv, hc⟩ := R.out w1 hg1
  obtain rfl : b = b' := by simp at hv; exact hv
  clear hv hc1 hg1 H
  have hcell := hc r1 hr1
  have hsz := hm r1 hr1
  generalize xs.getD r1 ⟨#[]⟩ = z at hcell hsz
  clear hc
  have t : (r1 : Int) < (xs.length : Int) := by omega
  go_wp2
  go_ret
  exact ⟨z, hsz, rfl, C1.out, G1.out⟩

set_option maxRecDepth 100000 in
set_option maxHeartbeats 1600000 in
theorem long9_calls (g : Nat) (cv : Value) (k : Nat) (w : World) (h : CurS w g cv k) (hk : k ≤ 900000000) :
    Calls Try.prog 59 #[.pointer (some ⟨g, 0, none⟩)] w fun e w' => ∃ s : ByteArray, s.size ≤ 301 ∧ e = .returned (.string s) ∧ CurS w' g cv (k + 30) ∧ w.grownBy w' (some g) := by
  have H := hide h
  clear h
  go_enter Try.func59, Try.ntmps59
  go_wp2_with fail
  refine (pick_calls g cv k 10 _ H.out (by omega) (by omega) (by omega)).mono ?_
  rintro e w2 ⟨r2, hr2, rfl, hc2, hg2⟩
  have C2 := hide hc2
  have G2 := hide hg2
  clear hc2 hg2 H
  go_wp2
  go_loopw [3, 4] (fun vs vn wr => ∃ (j m : Nat) (s : ByteArray), j + m = r2 ∧ vn = .int .i64 m ∧ vs = .string s ∧ s.size ≤ 17 * j ∧ CurS wr g cv (k + 2 + 2 * j) ∧ w.grownBy wr (some g)) (fun _ vn _ => (intOf vn).toNat)
  case atStart => exact ⟨0, r2, ⟨#[]⟩, by omega, rfl, rfl, by decide, C2.out, G2.out⟩
  case round =>
    obtain ⟨j, m, s, hjm, rfl, rfl, hsz, hc, hg⟩ := hrel
    have JM := hide hjm
    have hm5 : m ≤ 9 := by omega
    have hj5 : j ≤ 9 := by omega
    have hlt : g < wr.heap.size := curS_lt hc
    have C3 := hide hc
    have G3 := hide hg
    clear hjm hc hg
    by_cases hm0 : 0 < m
    · have hm0' : (0 : Int) < (m : Int) := by omega
      go_wp2_with fail
      refine (of_calls g cv _ [⟨#[97, 32, 98, 108, 111, 99, 107, 32, 111, 102, 32, 98, 121, 116, 101, 115, 32]⟩, ⟨#[120, 121, 122]⟩, ⟨#[48, 49, 50, 51, 52, 53, 54, 55, 56, 57]⟩, ⟨#[0, 0, 0, 0]⟩, ⟨#[116, 104, 101, 32, 115, 97, 109, 101, 32, 119, 111, 114, 100, 115, 32]⟩, ⟨#[113]⟩] (k + 2 + 2 * j) 17 _ (C3.out.alloc _) (by omega) (rdS_build hlt) (by decide) (by decide) (by decide)).mono ?_
      rintro e w4 ⟨t, ht, rfl, hc4, hg4⟩
      have C4 := hide hc4
      have G4 := hide (grown_trans G3.out (grown_trans (World.grownBy_alloc _ _ _) hg4))
      clear hc4 hg4 C3 G3
      have hadd := run_string_add_sum (P := Try.prog) (w := w4) s t (by omega)
      go_wp2
      go_roundw
      case rel => exact ⟨j + 1, m - 1, s ++ t, by have := JM.out; omega, int_eq (by omega), rfl, by rw [ByteArray.size_append]; omega, C4.out.mono (by omega), G4.out⟩
      case measure => simp [intOf]; omega
    · obtain rfl : m = 0 := by omega
      go_wp2_with fail
      refine (one_calls g cv (k + 2 + 2 * j) 20 _ C3.out (by omega) (by omega) (by omega)).mono ?_
      rintro e w1 ⟨b, rfl, hc1, hg1⟩
      have C1 := hide hc1
      have G1 := hide (grown_trans G3.out hg1)
      clear hc1 hg1 C3 G3
      cases b with
      | true =>
        go_wp2_with fail
        refine (pick_calls g cv (k + 2 + 2 * j + 2) 3 _ C1.out (by omega) (by omega) (by omega)).mono ?_
        rintro e w2 ⟨r3, hr3, rfl, hc2, hg2⟩
        have C2 := hide hc2
        have G2 := hide (grown_trans G1.out hg2)
        clear hc2 hg2 C1 G1
        go_wp2_with (at_make; refine wpList_make_bytes rfl _ _ rfl w2.heap.size _ _ (299 + r3) rfl rfl (by omega) (by omega) (by omega) (Nat.le_refl _) ?_)
        intro w3 hown hgrow
        have hcv := conv_zero hown
        have C3 := hide (C2.out.made hgrow)
        have G3 := hide (grown_trans G2.out (grown_wide hgrow))
        clear hgrow hown C2 G2
        go_wp2
        go_ret
        exact ⟨zst (299 + r3), by rw [zst_size]; omega, rfl, C3.out.mono (by omega), G3.out⟩
      | false =>
        go_wp2
        go_ret
        exact ⟨s, by omega, rfl, C1.out.mono (by omega), G1.out⟩

end Go.Proofs.Ythmijjcddjlebaa

namespace Go.Proofs.Ythmijjcddjlebaa
open Go.RowKit

def IsRow (k : IntKind) (w : World) (a : Option Addr) (len cap : Nat) (zs : List Int) : Prop :=
  (a = none ∧ len = 0 ∧ cap = 0 ∧ zs = []) ∨
  ∃ x, a = some x ∧ len ≤ cap ∧ cap ≤ maxLen ∧ zs.length = cap ∧ (∀ i, i < zs.length → w.cell? (x.add i) = some (.int k (zs.getD i 0))) ∧ ∀ n ∈ zs, (Lit.int k n).wf = true
theorem IsRow.rdb {w : World} {a : Option Addr} {len cap : Nat} {zs : List Int} (h : IsRow .u8 w a len cap zs) (hb : len ≤ 140737488351232) : RdB w (.slice a len cap) := by
  rcases h with ⟨rfl, rfl, rfl, rfl⟩ | ⟨⟨b, off, sp⟩, rfl, hl, hm, hz, hc, hwf⟩
  · exact ⟨none, 0, [], rfl, by simp, fun i => by simp, .inl rfl⟩
  · have bd : ∀ n ∈ zs, 0 ≤ n ∧ n ≤ 255 := by
      intro n hn
      have := hwf n hn
      simp [Lit.wf, IntKind.min, IntKind.max, IntKind.signed, IntKind.bits] at this
      omega
    have el : ((zs.take len).map Int.toNat).length = len := by rw [List.length_map, List.length_take]; omega
    refine ⟨_, cap, (zs.take len).map Int.toNat, by rw [el], by rw [el]; omega, ?_, ?_⟩
    · intro i
      simp only [List.getD_eq_getElem?_getD, List.getElem?_map, List.getElem?_take]
      split
      · cases hx : zs[i]? with
        | none => simp
        | some n => have := bd n (List.mem_of_getElem? hx); simp; omega
      · simp
    · by_cases h0 : len = 0
      · left
        subst h0
        simp
      · right
        have h00 := hc 0 (by omega)
        obtain rfl : sp = none := by simpa [Addr.add] using World.cell?_spot h00
        refine ⟨b, off, rfl, ?_, ?_⟩
        · have : w.cell? ⟨b, off, none⟩ = some (.int .u8 (zs.getD 0 0)) := by simpa [Addr.add] using h00
          unfold World.cell? at this
          cases hh : w.heap[b]? with
          | none => simp [hh] at this
          | some o => exact (Array.getElem?_eq_some_iff.1 hh).1
        · intro i hi
          rw [el] at hi
          have := hc i (by omega)
          have hadd : (⟨b, off, none⟩ : Addr).add i = ⟨b, off + i, none⟩ := by unfold Addr.add; split <;> simp_all
          rw [hadd] at this
          rw [this]
          have hiz : i < zs.length := by omega
          have hn := bd zs[i] (List.getElem_mem hiz)
          simp only [List.getD_eq_getElem?_getD, List.getElem?_map, List.getElem?_take, if_pos hi, List.getElem?_eq_getElem hiz, Option.map_some, Option.getD_some]
          congr 2
          omega
end Go.Proofs.Ythmijjcddjlebaa

namespace Go.Proofs.Ythmijjcddjlebaa
open Go.RowKit
set_option linter.unusedVariables false

set_option maxRecDepth 100000 in
set_option maxHeartbeats 800000 in
theorem sameInts9_quiet (v1 v2 : Value) (xs : List Int) (w : World) (h1 : Rd w v1 xs) (h2 : Rd w v2 xs) :
    Calls Try.prog 124 #[v1, v2] w fun e w' => e = .returned (.bool true) ∧ ∃ n, w' = w.drewN n := by
  obtain ⟨a1, c1, rfl, _, m1, k1⟩ := h1
  obtain ⟨a2, c2, rfl, _, _, k2⟩ := h2
  have hm : xs.length ≤ maxLen := by omega
  unfold maxLen at hm
  have K := hide k1
  have L := hide k2
  clear k1 k2 m1
  go_enter Try.func124, Try.ntmps124
  go_wp2
  go_loopw [13] (fun vi wr => ∃ k n : Nat, k ≤ xs.length ∧ vi = .int .i64 k ∧ wr = w.drewN n) (fun vi _ => xs.length - (intOf vi).toNat)
  case atStart => exact ⟨0, 0, Nat.zero_le _, rfl, rfl⟩
  case round =>
    obtain ⟨k, n, hk, rfl, rfl⟩ := hrel
    by_cases hlt : k < xs.length
    · rcases K.out with h3 | ⟨b, off, rfl, hbs, hc⟩
      · subst h3; simp at hlt
      rcases L.out with h3 | ⟨b', off', rfl, hbs', hc'⟩
      · subst h3; simp at hlt
      have e1 : w.cell? ⟨b, off + k, none⟩ = some (.int .i64 (xs.getD k 0)) := hc k hlt
      have e2 : w.cell? ⟨b', off' + k, none⟩ = some (.int .i64 (xs.getD k 0)) := hc' k hlt
      have hlt' : (k : Int) < (xs.length : Int) := by omega
      clear hc hc'
      go_wp2
      go_quiet (fail)
      go_wp2
      go_roundw
      case rel => exact ⟨k + 1, _, by omega, by go_num, rfl⟩
      case measure => simp [intOf]; omega
    · obtain rfl : k = xs.length := by omega
      go_wp2
      go_ret
      exact ⟨rfl, _, rfl⟩
theorem sameInts9_same (v1 v2 : Value) (xs : List Int) (w : World) (h1 : Rd w v1 xs) (h2 : Rd w v2 xs) :
    Calls Try.prog 124 #[v1, v2] w fun e w' => e = .returned (.bool true) ∧ Below w.heap.size w w' :=
  (sameInts9_quiet v1 v2 xs w h1 h2).mono (fun _ _ ⟨h, n, hn⟩ => ⟨h, hn ▸ below_drewN' n⟩)

set_option maxRecDepth 100000 in
set_option maxHeartbeats 400000 in
theorem sameTexts9_same (v1 v2 : Value) (xs : List ByteArray) (w : World) (h1 : RdT w v1 xs) (h2 : RdT w v2 xs) :
    Calls Try.prog 20 #[v1, v2] w fun e w' => e = .returned (.bool true) ∧ Below w.heap.size w w' := by
  obtain ⟨a1, c1, rfl, _, m1, _, k1⟩ := h1
  obtain ⟨a2, c2, rfl, _, _, _, k2⟩ := h2
  have hm : xs.length ≤ maxLen := by omega
  unfold maxLen at hm
  have K := hide k1
  have L := hide k2
  clear k1 k2 m1
  go_enter Try.func20, Try.ntmps20
  go_wp2
  go_loopw [13] (fun vi wr => ∃ k : Nat, k ≤ xs.length ∧ vi = .int .i64 k ∧ Below w.heap.size w wr) (fun vi _ => xs.length - (intOf vi).toNat)
  case atStart => exact ⟨0, Nat.zero_le _, rfl, Below.refl _ _⟩
  case round =>
    obtain ⟨k, hk, rfl, hb⟩ := hrel
    by_cases hlt : k < xs.length
    · rcases K.out with h3 | ⟨b, off, rfl, hbs, hc⟩
      · subst h3; simp at hlt
      rcases L.out with h3 | ⟨b', off', rfl, hbs', hc'⟩
      · subst h3; simp at hlt
      have e1 : wr.cell? ⟨b, off + k, none⟩ = some (.string (xs.getD k ⟨#[]⟩)) := (hb.cell (by exact hbs)).trans (hc k hlt)
      have e2 : wr.cell? ⟨b', off' + k, none⟩ = some (.string (xs.getD k ⟨#[]⟩)) := (hb.cell (by exact hbs')).trans (hc' k hlt)
      have hlt' : (k : Int) < (xs.length : Int) := by omega
      clear hc hc'
      generalize xs.getD k ⟨#[]⟩ = z at e1 e2
      go_wp2
      go_quiet (fail)
      go_wp2
      go_roundw
      case rel => exact ⟨k + 1, by omega, by go_num, below_drewN hb _⟩
      case measure => simp [intOf]; omega
    · obtain rfl : k = xs.length := by omega
      go_wp2
      go_ret
      exact ⟨rfl, hb⟩

end Go.Proofs.Ythmijjcddjlebaa

namespace Go.Proofs.Ythmijjcddjlebaa
open Go.RowKit
set_option linter.unusedVariables false

def fl9 (xs : List ByteArray) : List Nat := xs.flatMap bs
theorem fl9_snoc (xs : List ByteArray) (k : Nat) (h : k < xs.length) : fl9 (xs.take (k + 1)) = fl9 (xs.take k) ++ bs (xs.getD k ⟨#[]⟩) := by
  unfold fl9
  rw [List.take_succ_eq_append_getElem h, List.flatMap_append, List.getD_eq_getElem?_getD, List.getElem?_eq_getElem h]
  simp
theorem fl9_small (xs : List ByteArray) : ∀ b ∈ fl9 xs, b < 256 := by
  intro b hb
  obtain ⟨s, _, hs⟩ := List.mem_flatMap.1 hb
  exact bs_lt s b hs
theorem fl9_len (xs : List ByteArray) (k : Nat) (hk : k ≤ xs.length) (h : ∀ i, i < xs.length → (xs.getD i ⟨#[]⟩).size ≤ 1048576) : (fl9 (xs.take k)).length ≤ 1048576 * k := by
  induction k with
  | zero => simp [fl9]
  | succ k ih =>
    rw [fl9_snoc xs k (by omega), List.length_append, bs_length]
    have := ih (by omega)
    have := h k (by omega)
    omega
theorem fl9_mono (xs : List ByteArray) (k : Nat) : (fl9 (xs.take k)).length ≤ (fl9 xs).length := by
  conv => rhs; rw [← List.take_append_drop k xs]
  unfold fl9
  rw [List.flatMap_append, List.length_append]
  exact Nat.le_add_right _ _
theorem szs_of {xs : List ByteArray} (h : ∀ i, i < xs.length → (xs.getD i ⟨#[]⟩).size ≤ 1048576) (k : Nat) : (xs.getD k ⟨#[]⟩).size ≤ 1048576 := by
  by_cases hk : k < xs.length
  · exact h k hk
  · rw [List.getD_eq_getElem?_getD, List.getElem?_eq_none (by omega)]
    exact Nat.zero_le _

set_option maxRecDepth 100000 in
set_option maxHeartbeats 400000 in
theorem countBytes_calls (v : Value) (xs : List ByteArray) (w : World) (h : RdT w v xs) (hn : xs.length ≤ 1048576) (hs : ∀ i, i < xs.length → (xs.getD i ⟨#[]⟩).size ≤ 1048576) :
    Calls Try.prog 68 #[v] w fun e w' => e = .returned (.int .i64 ((fl9 xs).length : Int)) ∧ w = w' := by
  obtain ⟨a, cap, rfl, h1, h2, h4, h3⟩ := h
  have H3 := hide h3
  have HS := hide hs
  clear h3 h4 h2 h1 hs
  go_enter Try.func68, Try.ntmps68
  go_wp2
  go_loop [3, 8] (fun vs vi => ∃ k : Nat, k ≤ xs.length ∧ vi = .int .i64 k ∧ vs = .int .i64 ((fl9 (xs.take k)).length : Int)) (fun _ vi => xs.length - (intOf vi).toNat)
  case atStart => exact ⟨0, Nat.zero_le _, rfl, rfl⟩
  case round =>
    obtain ⟨k, hk, rfl, rfl⟩ := hrel
    have hfl := fl9_len xs k hk HS.out
    by_cases hlt : k < xs.length
    · rcases H3.out with h3 | ⟨b, off, rfl, hbs, hc⟩
      · subst h3; simp at hlt
      have hc1 := hc k hlt
      have hz := HS.out k hlt
      have hst : Hid ((fl9 (xs.take (k + 1))).length = (fl9 (xs.take k)).length + (xs.getD k ⟨#[]⟩).size) := by show _ = _; rw [fl9_snoc xs k hlt, List.length_append, bs_length]
      generalize xs.getD k ⟨#[]⟩ = z at hc1 hz hst
      generalize (fl9 (xs.take k)).length = y at hfl hst ⊢
      have hlt' : (k : Int) < (xs.length : Int) := by omega
      clear hc
      go_wp2
      go_round
      case rel => exact ⟨k + 1, by omega, by go_num, int_eq (by rw [hst.out]; omega)⟩
      case measure => simp [intOf]; omega
    · obtain rfl : k = xs.length := by omega
      rw [List.take_length]
      go_wp2
      go_ret
      exact ⟨rfl, rfl⟩

theorem strCells_bs9 (s : ByteArray) : Go.Lib.strCells s = (bs s).map u8v := by
  unfold Go.Lib.strCells bs
  rw [List.map_map]
  rfl
theorem infoU8j : (Try.prog.info? 5).map (fun i => (i.zero, i.size, i.bytes)) = some (some (.int .u8 0), 1, 1) := by kernel_rfl
theorem own_conv9 {w : World} {base g n cap : Nat} {l : List Nat} (h : w.ownsRow base 5 1 (.slice (some ⟨g, 0, none⟩) n cap) n (l.map u8v)) (hl : ∀ b ∈ l, b < 256) :
    (convert 22 9 (.slice (some ⟨g, 0, none⟩) n cap)).run Try.prog w = .ok (.string (ofN l)) w := by
  have hn : l.length = n := by have := h.1; simpa using this
  have := run_convert_bytes_back (P := Try.prog) w 22 9 5 ⟨g, 0, none⟩ cap (l.map UInt8.ofNat) Try.underlying22 Try.underlying5 Try.underlying9 (fun j hj => by
    have hj' : j < l.length := by simpa using hj
    have hadd : (⟨g, 0, none⟩ : Addr).add j = ⟨g, 0 + j, none⟩ := by unfold Addr.add; split <;> simp_all
    rw [hadd, Nat.zero_add, World.ownsRow.cellAt h j (by omega), List.getElem?_map, List.getElem?_eq_getElem hj', List.getElem_map]
    show some (u8v l[j]) = _
    unfold u8v
    rw [UInt8.toNat_ofNat', Nat.mod_eq_of_lt (hl _ (List.getElem_mem hj'))])
  rw [List.length_map, hn] at this
  exact this

set_option maxRecDepth 100000 in
set_option maxHeartbeats 800000 in
theorem joinTexts_calls (v : Value) (xs : List ByteArray) (w : World) (h : RdT w v xs) (hn : xs.length ≤ 1048576) (hF : (fl9 xs).length ≤ 1048576) (hs : ∀ i, i < xs.length → (xs.getD i ⟨#[]⟩).size ≤ 1048576) :
    Calls Try.prog 75 #[v] w fun e w' => e = .returned (.string (ofN (fl9 xs))) ∧ Below w.heap.size w w' := by
  obtain ⟨a, cap, rfl, hl1, h2, h4, h3⟩ := h
  have H3 := hide h3
  have HS := hide hs
  clear h3 h4 hs hl1 h2
  obtain ⟨i0, hi, hz0, hz1, hz2⟩ := info_parts infoU8j
  have IP := hide (And.intro hi (And.intro hz0 (And.intro hz1 hz2)))
  clear hi hz0 hz1 hz2
  have O0 : Hid ((w.alloc (.cells #[] 5)).ownsRow w.heap.size 5 1 (.slice (some ⟨w.heap.size, 0, none⟩) 0 0) 0 (([] : List Nat).map u8v)) := by
    show World.ownsRow _ _ _ _ _ _ _
    have := World.ownsRow_lit (base := w.heap.size) (e := 5) (size := 1) w #[] 0 (Nat.le_refl _) (by unfold maxLen; omega) (by simp)
    simpa using this
  go_enter Try.func75, Try.ntmps75
  go_wp2
  go_loopw [3, 9] (fun vt vi wr => ∃ (k g c : Nat), k ≤ xs.length ∧ vi = .int .i64 k ∧ vt = .slice (some ⟨g, 0, none⟩) (fl9 (xs.take k)).length c ∧ wr.ownsRow w.heap.size 5 1 (.slice (some ⟨g, 0, none⟩) (fl9 (xs.take k)).length c) (fl9 (xs.take k)).length ((fl9 (xs.take k)).map u8v) ∧ Below w.heap.size w wr) (fun _ vi _ => xs.length - (intOf vi).toNat)
  case atStart => exact ⟨0, w.heap.size, 0, Nat.zero_le _, rfl, rfl, O0.out, (Below.refl _ w).alloc (Nat.le_refl _) _⟩
  case round =>
    obtain ⟨k, g, c, hk, rfl, rfl, hown, hb⟩ := hrel
    have O := hide hown
    have HB := hide hb
    have hgl : w.heap.size ≤ g := by
      rcases hown.2 with ⟨h', _⟩ | ⟨g', cap', cur, h', hbg, _⟩
      · simp at h'
      · simp at h'; omega
    have hfl := fl9_mono xs k
    by_cases hlt : k < xs.length
    · rcases H3.out with h3 | ⟨b, off, rfl, hbs, hc⟩
      · subst h3; simp at hlt
      have hc1 : wr.cell? ⟨b, off + k, none⟩ = some (.string (xs.getD k ⟨#[]⟩)) := (hb.cell (p := ⟨b, off + k, none⟩) hbs).trans (hc k hlt)
      have hz := HS.out k hlt
      have hsn := fl9_snoc xs k hlt
      obtain ⟨z, hzz⟩ : ∃ z, z = xs.getD k ⟨#[]⟩ := ⟨_, rfl⟩
      rw [← hzz] at hc1 hz hsn
      have HSN := hide hsn
      have hlt' : (k : Int) < (xs.length : Int) := by omega
      clear hzz hc hsn hown hb
      obtain ⟨m, hm2⟩ : ∃ m, m = (fl9 (xs.take k)).length := ⟨_, rfl⟩
      have HM := hide hm2
      have oo := O.out
      rw [← hm2] at oo hfl ⊢
      have OO := hide oo
      clear hm2 oo
      have hbb : w.heap.size ≤ wr.heap.size := HB.out.size
      go_wp2_with (at_builtin; refine Go.Lib.wpList_append_own_string (w := wr) rfl _ _ _ _ rfl w.heap.size 5 i0 Try.underlying22 Try.underlying9 IP.out.1 IP.out.2.1 IP.out.2.2.1 IP.out.2.2.2 _ m _ rfl OO.out z rfl (by unfold maxLen; omega) (by omega) hbb ?_)
      intro v' w2 o2 g2 hnil
      have B2 := hide (HB.out.grown g2 HB.out.size (fun j hj => by simp [Value.ownBlock] at hj; omega))
      have o3 := o2
      rw [strCells_bs9, ← List.map_append, ← HSN.out] at o3
      rcases o3.2 with ⟨h', _⟩ | ⟨g', cap', cur, h', _⟩
      · exact absurd h' hnil
      have O3 := hide o3
      have H' := hide h'
      clear o2 o3 g2 hnil h'
      go_wp2
      go_roundw
      case rel =>
        have e : (fl9 (xs.take (k + 1))).length = m + z.size := by rw [HSN.out, List.length_append, bs_length, HM.out]
        refine ⟨k + 1, g', cap', by omega, by go_num, by rw [H'.out, e], ?_, B2.out⟩
        rw [e, ← H'.out]
        exact O3.out
      case measure => simp [intOf]; omega
    · obtain rfl : k = xs.length := by omega
      have oo := O.out
      rw [List.take_length] at oo ⊢
      have hcv := own_conv9 oo (fl9_small xs)
      clear oo hown hb
      go_wp2
      go_ret
      exact ⟨rfl, HB.out⟩

abbrev jchOk (xs : List ByteArray) : Prop := xs.length ≤ 80 ∧ (fl9 xs).length ≤ 300
def jchR (xs : List ByteArray) : ByteArray × Bool := if jchOk xs then (ofN (fl9 xs), true) else (⟨#[]⟩, false)

set_option maxRecDepth 100000 in
set_option maxHeartbeats 400000 in
theorem joinChunks_calls (v : Value) (xs : List ByteArray) (w : World) (h : RdT w v xs) (hn : xs.length ≤ 1048576) (hs : ∀ i, i < xs.length → (xs.getD i ⟨#[]⟩).size ≤ 1048576) :
    Calls Try.prog 24 #[v] w fun e w' => e = .returned (.tuple #[.string (jchR xs).1, .bool (jchR xs).2]) ∧ Below w.heap.size w w' := by
  have R := hide h
  have HS := hide hs
  obtain ⟨a, cap, rfl, hl1, h2, h4, h3⟩ := h
  clear h3 h4 hs hl1 h2
  by_cases h80 : xs.length ≤ 80
  case neg =>
    rw [show jchR xs = (⟨#[]⟩, false) from if_neg (fun h => h80 h.1)]
    have h' : (80 : Int) < (xs.length : Int) := by omega
    go_enter Try.func24, Try.ntmps24
    go_wp2
    go_ret2
    exact ⟨rfl, Below.refl _ _⟩
  have h' : ¬ (80 : Int) < (xs.length : Int) := by omega
  have hb' : decide ((80 : Int) < (xs.length : Int)) = false := decide_eq_false h'
  by_cases h300 : (fl9 xs).length ≤ 300
  case neg =>
    rw [show jchR xs = (⟨#[]⟩, false) from if_neg (fun h => h300 h.2)]
    have u : (300 : Int) < ((fl9 xs).length : Int) := by omega
    go_enter Try.func24, Try.ntmps24
    go_wp2_with fail
    refine (countBytes_calls _ xs _ R.out hn HS.out).mono ?_
    rintro e w1 ⟨rfl, rfl⟩
    go_wp2
    go_ret2
    exact ⟨rfl, Below.refl _ _⟩
  rw [show jchR xs = (ofN (fl9 xs), true) from if_pos ⟨h80, h300⟩]
  have u : ¬ (300 : Int) < ((fl9 xs).length : Int) := by omega
  have ub : decide ((300 : Int) < ((fl9 xs).length : Int)) = false := decide_eq_false u
  go_enter Try.func24, Try.ntmps24
  go_wp2_with fail
  refine (countBytes_calls _ xs _ R.out hn HS.out).mono ?_
  rintro e w1 ⟨rfl, rfl⟩
  go_wp2_with fail
  refine (joinTexts_calls _ xs _ R.out hn (by omega) HS.out).mono ?_
  rintro e w1 ⟨rfl, b1⟩
  go_wp2
  go_ret2
  exact ⟨rfl, b1⟩

set_option maxRecDepth 100000 in
set_option maxHeartbeats 800000 in
theorem sJoinChunks_calls (v : Value) (xs : List ByteArray) (w : World) (h : RdT w v xs) (hn : xs.length ≤ 1048576) (hs : ∀ i, i < xs.length → (xs.getD i ⟨#[]⟩).size ≤ 1048576) :
    Calls Try.prog 25 #[v] w fun e w' => e = .returned (.tuple #[.string (jchR xs).1, .bool (jchR xs).2]) ∧ Below w.heap.size w w' := by
  obtain ⟨a, cap, rfl, hl1, h2, h4, h3⟩ := h
  have H3 := hide h3
  have HS := hide hs
  have NO : Hid (∀ k, k < xs.length → 300 < (fl9 (xs.take (k + 1))).length → jchR xs = (⟨#[]⟩, false)) := fun k hk hl => if_neg (fun h => by have := fl9_mono xs (k + 1); omega)
  clear h3 h4 hs hl1 h2
  go_enter Try.func25, Try.ntmps25
  go_wp2
  go_loop [4, 9] (fun vt vi => ∃ (k : Nat), k ≤ xs.length ∧ vi = .int .i64 k ∧ vt = .string (ofN (fl9 (xs.take k))) ∧ (fl9 (xs.take k)).length ≤ 300) (fun _ vi => xs.length - (intOf vi).toNat)
  case atStart => exact ⟨0, Nat.zero_le _, rfl, rfl, by simp [fl9]⟩
  case round =>
    obtain ⟨k, hk, rfl, rfl, hfl⟩ := hrel
    by_cases hlt : k < xs.length
    · rcases H3.out with h3 | ⟨b, off, rfl, hbs, hc⟩
      · subst h3; simp at hlt
      have hc1 := hc k hlt
      have hz := HS.out k hlt
      have hsn := fl9_snoc xs k hlt
      obtain ⟨z, hzz⟩ : ∃ z, z = xs.getD k ⟨#[]⟩ := ⟨_, rfl⟩
      rw [← hzz] at hc1 hz hsn
      have HSN := hide hsn
      have hlt' : (k : Int) < (xs.length : Int) := by omega
      clear hzz hc hsn
      have hsz : (ofN (fl9 (xs.take k))).size = (fl9 (xs.take k)).length := ofN_size _
      have hl1 : Hid ((fl9 (xs.take (k + 1))).length = (fl9 (xs.take k)).length + z.size) := by show _ = _; rw [HSN.out, List.length_append, bs_length]
      have hadd := fun W : World => run_string_add_sum (P := Try.prog) (w := W) (ofN (fl9 (xs.take k))) z (by omega)
      have AD : Hid (ofN (fl9 (xs.take (k + 1))) = ofN (fl9 (xs.take k)) ++ z) := by show _ = _; rw [HSN.out, ← ofN_append, ofN_bs]
      by_cases hgo : (fl9 (xs.take k)).length + z.size ≤ 300
      · have u : ¬ (300 : Int) - ((fl9 (xs.take k)).length : Int) < (z.size : Int) := by omega
        have L1 : Hid ((fl9 (xs.take (k + 1))).length ≤ 300) := by show _ ≤ _; rw [hl1.out]; exact hgo
        go_wp2
        go_round
        case rel => exact ⟨k + 1, by omega, by go_num, by rw [AD.out], L1.out⟩
        case measure => simp [intOf]; omega
      · have u : (300 : Int) - ((fl9 (xs.take k)).length : Int) < (z.size : Int) := by omega
        have ER := hide (NO.out k hlt (by rw [hl1.out]; omega))
        go_wp2
        go_ret2
        exact ⟨by rw [ER.out]; rfl, Below.refl _ _⟩
    · obtain rfl : k = xs.length := by omega
      rw [List.take_length] at hfl ⊢
      by_cases h80 : xs.length ≤ 80
      · have ER := hide (show jchR xs = (ofN (fl9 xs), true) from if_pos ⟨h80, hfl⟩)
        have u : ¬ (80 : Int) < (xs.length : Int) := by omega
        go_wp2
        go_ret2
        exact ⟨by rw [ER.out]; rfl, Below.refl _ _⟩
      · have ER := hide (show jchR xs = (⟨#[]⟩, false) from if_neg (fun h => h80 h.1))
        have u : (80 : Int) < (xs.length : Int) := by omega
        go_wp2
        go_ret2
        exact ⟨by rw [ER.out]; rfl, Below.refl _ _⟩
end Go.Proofs.Ythmijjcddjlebaa
