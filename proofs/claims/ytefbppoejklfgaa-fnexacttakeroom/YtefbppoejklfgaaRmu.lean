/-
  How many places are free, and the greatest order that is free, of both sides. Each contract says what it asks.
-/
import Derived.Test.YtefbppoejklfgaaRmt
namespace Go.Proofs.Ytefbppoejklfgaa
open Go.RowKit
set_option linter.unusedVariables false

theorem tot_row : ∀ (m : List (List Int)) (k : Nat), (m.getD k []).length ≤ tot m
  | [], k => by simp [tot]
  | r :: m, 0 => by simp [tot]
  | r :: m, k + 1 => by
      have := tot_row m k
      simp [tot] at *
      omega
/-- The places in the free rooms of the orders below k. -/
def frS (m : List (List Int)) : Nat → Int
  | 0 => 0
  | k + 1 => frS m k + ((m.getD k []).length : Int) * pw k
theorem frS_le (m : List (List Int)) (hz : tot m ≤ 1048576) : ∀ k, k ≤ 6 → 0 ≤ frS m k ∧ frS m k ≤ 33554432 * k
  | 0, _ => by simp [frS]
  | k + 1, h => by
      have ih := frS_le m hz k (by omega)
      have h1 := tot_row m k
      have h2 : (0 : Int) ≤ pw k ∧ pw k ≤ 32 := ⟨by have := pw_pos k; omega, pw_le k (by omega)⟩
      have h3 : 0 ≤ ((m.getD k []).length : Int) * pw k := Int.mul_nonneg (by omega) h2.1
      have h4 : ((m.getD k []).length : Int) * pw k ≤ 1048576 * 32 := Int.mul_le_mul (by omega) h2.2 h2.1 (by omega)
      simp only [frS]
      constructor
      · omega
      · push_cast; omega
/-- The greatest order below k that has a free room, or minus one. -/
def mfS (m : List (List Int)) : Nat → Int
  | 0 => -1
  | k + 1 => if (m.getD k []).length = 0 then mfS m k else (k : Int)
theorem shlR (l : Int) (k : Nat) (hk : k ≤ 5) : wrap64 (l * 2 ^ k) = wrap64 (l * pw k) := by
  have : k = 0 ∨ k = 1 ∨ k = 2 ∨ k = 3 ∨ k = 4 ∨ k = 5 := by omega
  rcases this with rfl | rfl | rfl | rfl | rfl | rfl <;> rfl

set_option maxRecDepth 100000 in
set_option maxHeartbeats 1600000 in
theorem freeIn_calls (f h : Value) (m : List (List Int)) (hs : List Hl) (y : Bool) (w : World) (hf : RdM w f m) (hh : RdH w h hs) (hz : m.length + tot m ≤ 1048576) (hz2 : hs.length ≤ 1048576) (hy : y = true ↔ RoomsOk m hs) :
    Calls Try.prog 30 #[.agg #[f, h]] w fun e w' => e = .returned (.tuple #[.int .i64 (bif y then frS m 6 else 0), .bool y]) ∧ Below w.heap.size w w' := by
  obtain ⟨af, cf, rfl, q1, q2⟩ := hf.sl
  obtain ⟨ah, ch, rfl, q3, q4⟩ := hh.sl
  have RF := hide hf
  have RH := hide hh
  have G := hide (fun V h1 h2 => goodRooms_calls (.slice af m.length cf) (.slice ah hs.length ch) m hs y V h1 h2 (by omega) hz2 hy)
  have HY := hide hy
  have HZ := hide hz
  have hmm : m.length ≤ 1048576 := by omega
  have A0 := hide ((Hand.start w).box #[.slice af m.length cf, .slice ah hs.length ch] 25)
  obtain ⟨x0, x1⟩ := (A0.out.atBox 0 rfl).c2
  obtain ⟨V, hV⟩ : ∃ V, V = bif y then frS m 6 else 0 := ⟨_, rfl⟩
  rw [← hV]
  have HV := hide hV
  clear hf hh hz hy q1 q2 q3 q4 hV
  cases y with
  | false =>
    obtain rfl : V = 0 := HV.out
    clear HV
    go_enter Try.func30, Try.ntmps30
    go_wp2_with fail
    refine (G.out _ (RF.out.below A0.out.below) (RH.out.below A0.out.below)).mono ?_
    rintro e w1 ⟨rfl, b1⟩
    have A1 := hide (A0.out.step b1)
    clear b1
    go_wp2
    go_ret2
    exact ⟨rfl, A1.out.below⟩
  | true =>
    have h6 : m.length = 6 := (HY.out.1 rfl).len
    have H6 := hide h6
    have HX : Hid (frS m m.length = V) := by rw [h6]; exact HV.out.symm
    clear h6
    clear HV
    go_enter Try.func30, Try.ntmps30
    go_wp2_with fail
    refine (G.out _ (RF.out.below A0.out.below) (RH.out.below A0.out.below)).mono ?_
    rintro e w1 ⟨rfl, b1⟩
    have A1 := hide (A0.out.step b1)
    clear b1 A0 x0 x1
    obtain ⟨x0, x1⟩ := (A1.out.atBox 0 rfl).c2
    go_wp2_with fail
    clear x0 x1
    go_loopw [4, 13] (fun vn v wr => ∃ k : Nat, k ≤ m.length ∧ v = .int .i64 (k : Int) ∧ vn = .int .i64 (frS m k) ∧ Hand w wr [TBox w.heap.size #[.slice af m.length cf, .slice ah hs.length ch] 25]) (fun _ v _ => m.length - (intOf v).toNat)
    case atStart => exact ⟨0, Nat.zero_le _, rfl, rfl, A1.out⟩
    case round =>
      obtain ⟨k, hk, rfl, rfl, ha⟩ := hrel
      have A2 := hide ha
      clear ha A1
      by_cases hlt : k < m.length
      · have hlt' : (k : Int) < (m.length : Int) := by omega
        have k5 : k ≤ 5 := by have := H6.out; omega
        obtain ⟨bb, off, u, rfl, hc, hu⟩ := (RF.out.below A2.out.below).row k hlt
        obtain ⟨ar, cr, rfl, u1, u2⟩ := hu.slc
        clear u1 u2
        have b1 := frS_le m (by have := HZ.out; omega) k (by omega)
        have b2 := frS_le m (by have := HZ.out; omega) (k + 1) (by omega)
        have sn : frS m (k + 1) = frS m k + ((m.getD k []).length : Int) * pw k := rfl
        have tr := tot_row m k
        obtain ⟨l, hl⟩ : ∃ l, l = (m.getD k []).length := ⟨_, rfl⟩
        rw [← hl] at hc hu sn tr
        have l1 : l ≤ 1048576 := by have := HZ.out; omega
        have z0 : 0 ≤ (l : Int) * pw k := Int.mul_nonneg (by omega) (by have := pw_pos k; omega)
        have z1 : (l : Int) * pw k ≤ 1048576 * 32 := Int.mul_le_mul (by omega) (pw_le k k5) (by have := pw_pos k; omega) (by omega)
        have M : wrap64 ((l : Int) * pw k) = (l : Int) * pw k := by
          obtain ⟨z, hz⟩ : ∃ z, z = (l : Int) * pw k := ⟨_, rfl⟩
          rw [← hz] at z0 z1 ⊢
          unfold wrap64
          omega
        have M2 : wrap64 ((l : Int) * 2 ^ k) = (l : Int) * pw k := (shlR _ _ k5).trans M
        obtain ⟨z, hzz⟩ : ∃ z, z = (l : Int) * pw k := ⟨_, rfl⟩
        have M' := M.trans hzz.symm
        have M2' := M2.trans hzz.symm
        rw [← hzz] at sn z0 z1
        obtain ⟨x, hx⟩ : ∃ x, x = frS m k := ⟨_, rfl⟩
        rw [← hx] at sn b1 ⊢
        have SN := hide sn
        have x1 : x ≤ 201326592 := by omega
        have x0 := b1.1
        have xz : x + z ≤ 234881024 := by omega
        have L := hide (fun V => roomLong_calls k k5 V)
        obtain ⟨p, hp⟩ : ∃ p, p = pw k := ⟨_, rfl⟩
        rw [← hp] at L M'
        clear hl hu tr b1 b2 sn M M2 M2' hzz hx hp
        go_wp2_with (go_at_call 65; refine (L.out _).mono ?_; rintro e w' ⟨rfl, rfl⟩)
        go_roundw
        case rel => exact ⟨k + 1, by omega, by go_num, by rw [SN.out], A2.out⟩
        case measure => simp [intOf]; omega
      · obtain rfl : k = m.length := by omega
        rw [HX.out]
        go_wp2
        go_ret2
        exact ⟨rfl, A2.out.below⟩

set_option maxRecDepth 100000 in
set_option maxHeartbeats 1600000 in
theorem sFreeIn_calls (f h : Value) (m : List (List Int)) (hs : List Hl) (y : Bool) (w : World) (hf : RdM w f m) (hh : RdH w h hs) (hz : m.length + tot m ≤ 1048576) (hz2 : hs.length ≤ 1048576) (hy : y = true ↔ RoomsOk m hs) :
    Calls Try.prog 29 #[.agg #[f, h]] w fun e w' => e = .returned (.tuple #[.int .i64 (bif y then frS m 6 else 0), .bool y]) ∧ Below w.heap.size w w' := by
  obtain ⟨af, cf, rfl, q1, q2⟩ := hf.sl
  obtain ⟨ah, ch, rfl, q3, q4⟩ := hh.sl
  have RF := hide hf
  have RH := hide hh
  have G := hide (fun V h1 h2 => sGoodRooms_calls (.slice af m.length cf) (.slice ah hs.length ch) m hs y V h1 h2 (by omega) hz2 hy)
  have HY := hide hy
  have HZ := hide hz
  have hmm : m.length ≤ 1048576 := by omega
  have A0 := hide ((Hand.start w).box #[.slice af m.length cf, .slice ah hs.length ch] 25)
  obtain ⟨x0, x1⟩ := (A0.out.atBox 0 rfl).c2
  obtain ⟨V, hV⟩ : ∃ V, V = bif y then frS m 6 else 0 := ⟨_, rfl⟩
  rw [← hV]
  have HV := hide hV
  clear hf hh hz hy q1 q2 q3 q4 hV
  cases y with
  | false =>
    obtain rfl : V = 0 := HV.out
    clear HV
    go_enter Try.func29, Try.ntmps29
    go_wp2_with fail
    refine (G.out _ (RF.out.below A0.out.below) (RH.out.below A0.out.below)).mono ?_
    rintro e w1 ⟨rfl, b1⟩
    have A1 := hide (A0.out.step b1)
    clear b1
    go_wp2
    go_ret2
    exact ⟨rfl, A1.out.below⟩
  | true =>
    have h6 : m.length = 6 := (HY.out.1 rfl).len
    have H6 := hide h6
    have HX : Hid (frS m m.length = V) := by rw [h6]; exact HV.out.symm
    clear h6
    clear HV
    go_enter Try.func29, Try.ntmps29
    go_wp2_with fail
    refine (G.out _ (RF.out.below A0.out.below) (RH.out.below A0.out.below)).mono ?_
    rintro e w1 ⟨rfl, b1⟩
    have A1 := hide (A0.out.step b1)
    clear b1 A0 x0 x1
    obtain ⟨x0, x1⟩ := (A1.out.atBox 0 rfl).c2
    go_wp2_with fail
    clear x0 x1
    go_loopw [4, 13] (fun vn v wr => ∃ k : Nat, k ≤ m.length ∧ v = .int .i64 (k : Int) ∧ vn = .int .i64 (frS m k) ∧ Hand w wr [TBox w.heap.size #[.slice af m.length cf, .slice ah hs.length ch] 25]) (fun _ v _ => m.length - (intOf v).toNat)
    case atStart => exact ⟨0, Nat.zero_le _, rfl, rfl, A1.out⟩
    case round =>
      obtain ⟨k, hk, rfl, rfl, ha⟩ := hrel
      have A2 := hide ha
      clear ha A1
      by_cases hlt : k < m.length
      · have hlt' : (k : Int) < (m.length : Int) := by omega
        have k5 : k ≤ 5 := by have := H6.out; omega
        obtain ⟨bb, off, u, rfl, hc, hu⟩ := (RF.out.below A2.out.below).row k hlt
        obtain ⟨ar, cr, rfl, u1, u2⟩ := hu.slc
        clear u1 u2
        have b1 := frS_le m (by have := HZ.out; omega) k (by omega)
        have b2 := frS_le m (by have := HZ.out; omega) (k + 1) (by omega)
        have sn : frS m (k + 1) = frS m k + ((m.getD k []).length : Int) * pw k := rfl
        have tr := tot_row m k
        obtain ⟨l, hl⟩ : ∃ l, l = (m.getD k []).length := ⟨_, rfl⟩
        rw [← hl] at hc hu sn tr
        have l1 : l ≤ 1048576 := by have := HZ.out; omega
        have z0 : 0 ≤ (l : Int) * pw k := Int.mul_nonneg (by omega) (by have := pw_pos k; omega)
        have z1 : (l : Int) * pw k ≤ 1048576 * 32 := Int.mul_le_mul (by omega) (pw_le k k5) (by have := pw_pos k; omega) (by omega)
        have M : wrap64 ((l : Int) * pw k) = (l : Int) * pw k := by
          obtain ⟨z, hz⟩ : ∃ z, z = (l : Int) * pw k := ⟨_, rfl⟩
          rw [← hz] at z0 z1 ⊢
          unfold wrap64
          omega
        have M2 : wrap64 ((l : Int) * 2 ^ k) = (l : Int) * pw k := (shlR _ _ k5).trans M
        obtain ⟨z, hzz⟩ : ∃ z, z = (l : Int) * pw k := ⟨_, rfl⟩
        have M' := M.trans hzz.symm
        have M2' := M2.trans hzz.symm
        rw [← hzz] at sn z0 z1
        obtain ⟨x, hx⟩ : ∃ x, x = frS m k := ⟨_, rfl⟩
        rw [← hx] at sn b1 ⊢
        have SN := hide sn
        have x1 : x ≤ 201326592 := by omega
        have x0 := b1.1
        have xz : x + z ≤ 234881024 := by omega
        clear hl hu tr b1 b2 sn M M2 M' hzz hx
        go_wp2
        go_roundw
        case rel => exact ⟨k + 1, by omega, by go_num, by rw [SN.out], A2.out⟩
        case measure => simp [intOf]; omega
      · obtain rfl : k = m.length := by omega
        rw [HX.out]
        go_wp2
        go_ret2
        exact ⟨rfl, A2.out.below⟩

set_option maxRecDepth 100000 in
set_option maxHeartbeats 1600000 in
theorem mostFree_calls (f h : Value) (m : List (List Int)) (hs : List Hl) (y : Bool) (w : World) (hf : RdM w f m) (hh : RdH w h hs) (hz : m.length + tot m ≤ 1048576) (hz2 : hs.length ≤ 1048576) (hy : y = true ↔ RoomsOk m hs) :
    Calls Try.prog 38 #[.agg #[f, h]] w fun e w' => e = .returned (.tuple #[.int .i64 (bif y then mfS m 6 else 0), .bool y]) ∧ Below w.heap.size w w' := by
  obtain ⟨af, cf, rfl, q1, q2⟩ := hf.sl
  obtain ⟨ah, ch, rfl, q3, q4⟩ := hh.sl
  have RF := hide hf
  have RH := hide hh
  have G := hide (fun V h1 h2 => goodRooms_calls (.slice af m.length cf) (.slice ah hs.length ch) m hs y V h1 h2 (by omega) hz2 hy)
  have HY := hide hy
  have HZ := hide hz
  have hmm : m.length ≤ 1048576 := by omega
  have A0 := hide ((Hand.start w).box #[.slice af m.length cf, .slice ah hs.length ch] 25)
  obtain ⟨x0, x1⟩ := (A0.out.atBox 0 rfl).c2
  obtain ⟨V, hV⟩ : ∃ V, V = bif y then mfS m 6 else 0 := ⟨_, rfl⟩
  rw [← hV]
  have HV := hide hV
  clear hf hh hz hy q1 q2 q3 q4 hV
  cases y with
  | false =>
    obtain rfl : V = 0 := HV.out
    clear HV
    go_enter Try.func38, Try.ntmps38
    go_wp2_with fail
    refine (G.out _ (RF.out.below A0.out.below) (RH.out.below A0.out.below)).mono ?_
    rintro e w1 ⟨rfl, b1⟩
    have A1 := hide (A0.out.step b1)
    clear b1
    go_wp2
    go_ret2
    exact ⟨rfl, A1.out.below⟩
  | true =>
    have h6 : m.length = 6 := (HY.out.1 rfl).len
    have H6 := hide h6
    have HX : Hid (mfS m m.length = V) := by rw [h6]; exact HV.out.symm
    clear h6
    clear HV
    go_enter Try.func38, Try.ntmps38
    go_wp2_with fail
    refine (G.out _ (RF.out.below A0.out.below) (RH.out.below A0.out.below)).mono ?_
    rintro e w1 ⟨rfl, b1⟩
    have A1 := hide (A0.out.step b1)
    clear b1 A0 x0 x1
    obtain ⟨x0, x1⟩ := (A1.out.atBox 0 rfl).c2
    go_wp2_with fail
    clear x0 x1
    go_loopw [4, 13] (fun vn v wr => ∃ k : Nat, k ≤ m.length ∧ v = .int .i64 (k : Int) ∧ vn = .int .i64 (mfS m k) ∧ Hand w wr [TBox w.heap.size #[.slice af m.length cf, .slice ah hs.length ch] 25]) (fun _ v _ => m.length - (intOf v).toNat)
    case atStart => exact ⟨0, Nat.zero_le _, rfl, rfl, A1.out⟩
    case round =>
      obtain ⟨k, hk, rfl, rfl, ha⟩ := hrel
      have A2 := hide ha
      clear ha A1
      by_cases hlt : k < m.length
      · have hlt' : (k : Int) < (m.length : Int) := by omega
        have k5 : k ≤ 5 := by have := H6.out; omega
        obtain ⟨bb, off, u, rfl, hc, hu⟩ := (RF.out.below A2.out.below).row k hlt
        obtain ⟨ar, cr, rfl, u1, u2⟩ := hu.slc
        clear u1 u2
        obtain ⟨l, hl⟩ : ∃ l, l = (m.getD k []).length := ⟨_, rfl⟩
        rw [← hl] at hc hu
        have HL := hide hl
        clear hl hu
        by_cases l0 : l = 0
        · have SN : Hid (mfS m (k + 1) = mfS m k) := if_pos (by rw [← HL.out]; exact l0)
          have l0' : ¬ (0 : Int) < (l : Int) := by omega
          have l0d := decide_eq_false l0'
          obtain ⟨x, hx⟩ : ∃ x, x = mfS m k := ⟨_, rfl⟩
          rw [← hx] at SN ⊢
          clear hx
          go_wp2
          go_roundw
          case rel => exact ⟨k + 1, by omega, by go_num, by rw [SN.out], A2.out⟩
          case measure => simp [intOf]; omega
        · have SN : Hid (mfS m (k + 1) = (k : Int)) := if_neg (by rw [← HL.out]; exact l0)
          have l0' : (0 : Int) < (l : Int) := by omega
          have l0d := decide_eq_true l0'
          obtain ⟨x, hx⟩ : ∃ x, x = mfS m k := ⟨_, rfl⟩
          rw [← hx]
          clear hx
          go_wp2
          go_roundw
          case rel => exact ⟨k + 1, by omega, by go_num, by rw [SN.out], A2.out⟩
          case measure => simp [intOf]; omega
      · obtain rfl : k = m.length := by omega
        rw [HX.out]
        go_wp2
        go_ret2
        exact ⟨rfl, A2.out.below⟩

set_option maxRecDepth 100000 in
set_option maxHeartbeats 1600000 in
theorem sMostFree_calls (f h : Value) (m : List (List Int)) (hs : List Hl) (y : Bool) (w : World) (hf : RdM w f m) (hh : RdH w h hs) (hz : m.length + tot m ≤ 1048576) (hz2 : hs.length ≤ 1048576) (hy : y = true ↔ RoomsOk m hs) :
    Calls Try.prog 37 #[.agg #[f, h]] w fun e w' => e = .returned (.tuple #[.int .i64 (bif y then mfS m 6 else 0), .bool y]) ∧ Below w.heap.size w w' := by
  obtain ⟨af, cf, rfl, q1, q2⟩ := hf.sl
  obtain ⟨ah, ch, rfl, q3, q4⟩ := hh.sl
  have RF := hide hf
  have RH := hide hh
  have G := hide (fun V h1 h2 => sGoodRooms_calls (.slice af m.length cf) (.slice ah hs.length ch) m hs y V h1 h2 (by omega) hz2 hy)
  have HY := hide hy
  have HZ := hide hz
  have hmm : m.length ≤ 1048576 := by omega
  have A0 := hide ((Hand.start w).box #[.slice af m.length cf, .slice ah hs.length ch] 25)
  obtain ⟨x0, x1⟩ := (A0.out.atBox 0 rfl).c2
  obtain ⟨V, hV⟩ : ∃ V, V = bif y then mfS m 6 else 0 := ⟨_, rfl⟩
  rw [← hV]
  have HV := hide hV
  clear hf hh hz hy q1 q2 q3 q4 hV
  cases y with
  | false =>
    obtain rfl : V = 0 := HV.out
    clear HV
    go_enter Try.func37, Try.ntmps37
    go_wp2_with fail
    refine (G.out _ (RF.out.below A0.out.below) (RH.out.below A0.out.below)).mono ?_
    rintro e w1 ⟨rfl, b1⟩
    have A1 := hide (A0.out.step b1)
    clear b1
    go_wp2
    go_ret2
    exact ⟨rfl, A1.out.below⟩
  | true =>
    have h6 : m.length = 6 := (HY.out.1 rfl).len
    have H6 := hide h6
    have HX : Hid (mfS m m.length = V) := by rw [h6]; exact HV.out.symm
    clear h6
    clear HV
    go_enter Try.func37, Try.ntmps37
    go_wp2_with fail
    refine (G.out _ (RF.out.below A0.out.below) (RH.out.below A0.out.below)).mono ?_
    rintro e w1 ⟨rfl, b1⟩
    have A1 := hide (A0.out.step b1)
    clear b1 A0 x0 x1
    obtain ⟨x0, x1⟩ := (A1.out.atBox 0 rfl).c2
    go_wp2_with fail
    clear x0 x1
    go_loopw [4, 13] (fun vn v wr => ∃ k : Nat, k ≤ m.length ∧ v = .int .i64 (k : Int) ∧ vn = .int .i64 (mfS m k) ∧ Hand w wr [TBox w.heap.size #[.slice af m.length cf, .slice ah hs.length ch] 25]) (fun _ v _ => m.length - (intOf v).toNat)
    case atStart => exact ⟨0, Nat.zero_le _, rfl, rfl, A1.out⟩
    case round =>
      obtain ⟨k, hk, rfl, rfl, ha⟩ := hrel
      have A2 := hide ha
      clear ha A1
      by_cases hlt : k < m.length
      · have hlt' : (k : Int) < (m.length : Int) := by omega
        have k5 : k ≤ 5 := by have := H6.out; omega
        obtain ⟨bb, off, u, rfl, hc, hu⟩ := (RF.out.below A2.out.below).row k hlt
        obtain ⟨ar, cr, rfl, u1, u2⟩ := hu.slc
        clear u1 u2
        obtain ⟨l, hl⟩ : ∃ l, l = (m.getD k []).length := ⟨_, rfl⟩
        rw [← hl] at hc hu
        have HL := hide hl
        clear hl hu
        by_cases l0 : l = 0
        · have SN : Hid (mfS m (k + 1) = mfS m k) := if_pos (by rw [← HL.out]; exact l0)
          have l0' : ¬ (0 : Int) < (l : Int) := by omega
          have l0d := decide_eq_false l0'
          obtain ⟨x, hx⟩ : ∃ x, x = mfS m k := ⟨_, rfl⟩
          rw [← hx] at SN ⊢
          clear hx
          go_wp2
          go_roundw
          case rel => exact ⟨k + 1, by omega, by go_num, by rw [SN.out], A2.out⟩
          case measure => simp [intOf]; omega
        · have SN : Hid (mfS m (k + 1) = (k : Int)) := if_neg (by rw [← HL.out]; exact l0)
          have l0' : (0 : Int) < (l : Int) := by omega
          have l0d := decide_eq_true l0'
          obtain ⟨x, hx⟩ : ∃ x, x = mfS m k := ⟨_, rfl⟩
          rw [← hx]
          clear hx
          go_wp2
          go_roundw
          case rel => exact ⟨k + 1, by omega, by go_num, by rw [SN.out], A2.out⟩
          case measure => simp [intOf]; omega
      · obtain rfl : k = m.length := by omega
        rw [HX.out]
        go_wp2
        go_ret2
        exact ⟨rfl, A2.out.below⟩

end Go.Proofs.Ytefbppoejklfgaa
