/-
  Orders and places: how long a room is, whether there is such a room, its buddy, the order for a size: the program's functions and its model's, call by call. Each contract says what it asks.
-/
import Derived.Test.YtjffjoednmlkiaaMpd
namespace Go.Proofs.Ytjffjoednmlkiaa
open Go.RowKit
set_option linter.unusedVariables false

/-- How long a room of an order is. -/
def pw (o : Nat) : Int := ((2 ^ o : Nat) : Int)
theorem pw0 : pw 0 = 1 := rfl
theorem pw1 : pw 1 = 2 := rfl
theorem pw2 : pw 2 = 4 := rfl
theorem pw3 : pw 3 = 8 := rfl
theorem pw4 : pw 4 = 16 := rfl
theorem pw5 : pw 5 = 32 := rfl
theorem pw_succ (o : Nat) : pw (o + 1) = 2 * pw o := by
  unfold pw
  rw [Nat.pow_succ]
  omega
theorem pw_pos (o : Nat) : 1 ≤ pw o := by
  unfold pw
  have := Nat.one_le_two_pow (n := o)
  omega
theorem pw_le (o : Nat) (h : o ≤ 5) : pw o ≤ 32 := by
  have : o = 0 ∨ o = 1 ∨ o = 2 ∨ o = 3 ∨ o = 4 ∨ o = 5 := by omega
  rcases this with rfl | rfl | rfl | rfl | rfl | rfl <;> decide
/-- There is such a room. -/
abbrev rmP (a o : Int) : Prop := 0 ≤ o ∧ o ≤ 5 ∧ 0 ≤ a ∧ a < 32 ∧ a % pw o.toNat = 0
def rmB (a o : Int) : Bool := decide (rmP a o)
theorem rmB_iff (a o : Int) : rmB a o = true ↔ rmP a o := by simp [rmB]
/-- The place of the other half of the room that both make. -/
def bud (a : Int) (o : Nat) : Int := if a / pw o % 2 = 0 then a + pw o else a - pw o
def bdB (a o : Int) : Bool := rmB a o && decide (o ≠ 5)
def bdV (a o : Int) : Int := if bdB a o = true then bud a o.toNat else 0

set_option maxRecDepth 100000 in
theorem roomLong_calls (o : Nat) (ho : o ≤ 5) (w : World) : Calls Try.prog 150 #[.int .i64 (o : Int)] w fun e w' => e = .returned (.int .i64 (pw o)) ∧ w = w' := by
  have : o = 0 ∨ o = 1 ∨ o = 2 ∨ o = 3 ∨ o = 4 ∨ o = 5 := by omega
  clear ho
  rcases this with rfl | rfl | rfl | rfl | rfl | rfl
  all_goals
    go_enter Try.func150, Try.ntmps150
    go_wp2
    go_ret
    exact ⟨rfl, rfl⟩

set_option maxRecDepth 100000 in
set_option maxHeartbeats 800000 in
theorem isRoom_calls (a o : Int) (w : World) : Calls Try.prog 142 #[.int .i64 a, .int .i64 o] w fun e w' => e = .returned (.bool (rmB a o)) ∧ w = w' := by
  by_cases h1 : 0 ≤ o
  case neg =>
    have E : Hid (rmB a o = false) := decide_eq_false (fun h => h1 h.1)
    go_enter Try.func142, Try.ntmps142
    go_wp2
    go_ret
    exact ⟨by rw [E.out]; rfl, rfl⟩
  by_cases h2 : o ≤ 5
  case neg =>
    have E : Hid (rmB a o = false) := decide_eq_false (fun h => h2 h.2.1)
    go_enter Try.func142, Try.ntmps142
    go_wp2
    go_ret
    exact ⟨by rw [E.out]; rfl, rfl⟩
  by_cases h3 : 0 ≤ a
  case neg =>
    have E : Hid (rmB a o = false) := decide_eq_false (fun h => h3 h.2.2.1)
    go_enter Try.func142, Try.ntmps142
    go_wp2
    go_ret
    exact ⟨by rw [E.out]; rfl, rfl⟩
  by_cases h4 : a < 32
  case neg =>
    have E : Hid (rmB a o = false) := decide_eq_false (fun h => h4 h.2.2.2.1)
    go_enter Try.func142, Try.ntmps142
    go_wp2
    go_ret
    exact ⟨by rw [E.out]; rfl, rfl⟩
  obtain ⟨n, rfl⟩ : ∃ n : Nat, o = (n : Int) := ⟨o.toNat, by omega⟩
  obtain ⟨p, hp, hp1, hp2⟩ : ∃ p, p = pw n ∧ 1 ≤ p ∧ p ≤ 32 := ⟨_, rfl, pw_pos n, pw_le n (by omega)⟩
  have C := hide (roomLong_calls n (by omega) w)
  rw [← hp] at C
  have E : Hid (rmB a (n : Int) = decide (a % p = 0)) := by
    show rmB a (n : Int) = _
    unfold rmB rmP
    rw [Int.toNat_natCast, ← hp]
    simp [h1, h2, h3, h4]
  clear hp
  by_cases h5 : a % p = 0
  · rw [decide_eq_true h5] at E
    have T : (a % p == 0) = true := by simpa using h5
    clear h5
    go_enter Try.func142, Try.ntmps142
    go_wp2_with (go_at_call 150; refine C.out.mono ?_; rintro e w' ⟨rfl, rfl⟩)
    go_ret
    exact ⟨by rw [E.out]; rfl, rfl⟩
  · rw [decide_eq_false h5] at E
    have T : (a % p == 0) = false := by simpa using h5
    clear h5
    go_enter Try.func142, Try.ntmps142
    go_wp2_with (go_at_call 150; refine C.out.mono ?_; rintro e w' ⟨rfl, rfl⟩)
    go_ret
    exact ⟨by rw [E.out]; rfl, rfl⟩

theorem ofInt_i64R (a : Nat) : (BitVec.ofInt 64 (a : Int)).toNat = a % 18446744073709551616 := by
  rw [BitVec.ofInt_natCast, BitVec.toNat_ofNat]
theorem i64_xorR (a b : Nat) (ha : a < 4294967296) (hb : b < 4294967296) : bits .xor .i64 (a : Int) (b : Int) = ((a ^^^ b : Nat) : Int) := by
  have hx : a ^^^ b < 2 ^ 32 := Nat.xor_lt_two_pow (by omega) (by omega)
  show IntKind.i64.wrap ((BitVec.ofInt 64 (a : Int) ^^^ BitVec.ofInt 64 (b : Int)).toNat : Int) = _
  rw [BitVec.toNat_xor, ofInt_i64R, ofInt_i64R, Nat.mod_eq_of_lt (by omega), Nat.mod_eq_of_lt (by omega)]
  simp [IntKind.wrap, IntKind.bits, IntKind.signed]
  omega
theorem xor_all : ∀ a < 32, ∀ o < 5, ((a ^^^ 2 ^ o : Nat) : Int) = bud (a : Int) o := by decide
theorem xor_bud (a : Int) (o : Nat) (h0 : 0 ≤ a) (h1 : a < 32) (ho : o < 5) : bits .xor .i64 a (pw o) = bud a o := by
  obtain ⟨n, rfl⟩ : ∃ n : Nat, a = (n : Int) := ⟨a.toNat, by omega⟩
  have h2 := pw_le o (by omega)
  unfold pw at h2 ⊢
  rw [i64_xorR _ _ (by omega) (by omega)]
  exact xor_all n (by omega) o ho

set_option maxRecDepth 100000 in
set_option maxHeartbeats 800000 in
theorem buddyOf_calls (a o : Int) (w : World) : Calls Try.prog 152 #[.int .i64 a, .int .i64 o] w fun e w' => e = .returned (.tuple #[.int .i64 (bdV a o), .bool (bdB a o)]) ∧ w = w' := by
  have C := hide (isRoom_calls a o w)
  cases hb : rmB a o with
  | false =>
    have E : Hid (bdB a o = false ∧ bdV a o = 0) := by
      have e : bdB a o = false := by unfold bdB; rw [hb]; rfl
      exact ⟨e, by unfold bdV; rw [e]; rfl⟩
    rw [hb] at C
    clear hb
    rw [E.out.1, E.out.2]
    go_enter Try.func152, Try.ntmps152
    go_wp2_with (go_at_call 142; refine C.out.mono ?_; rintro e w' ⟨rfl, rfl⟩)
    go_ret2
    exact ⟨rfl, rfl⟩
  | true =>
    obtain ⟨r1, r2, r3, r4, r5⟩ := (rmB_iff a o).1 hb
    rw [hb] at C
    by_cases h5 : o = 5
    · have E : Hid (bdB a o = false ∧ bdV a o = 0) := by
        have e : bdB a o = false := by unfold bdB; rw [hb, h5]; rfl
        exact ⟨e, by unfold bdV; rw [e]; rfl⟩
      rw [E.out.1, E.out.2]
      subst h5
      clear hb r5
      go_enter Try.func152, Try.ntmps152
      go_wp2_with (go_at_call 142; refine C.out.mono ?_; rintro e w' ⟨rfl, rfl⟩)
      go_ret2
      exact ⟨rfl, rfl⟩
    · have e5 : (o == 5) = false := by simpa using h5
      have E : Hid (bdB a o = true ∧ bdV a o = bud a o.toNat) := by
        have e : bdB a o = true := by unfold bdB; rw [hb, decide_eq_true h5]; rfl
        exact ⟨e, by unfold bdV; rw [e]; rfl⟩
      rw [E.out.1, E.out.2]
      obtain ⟨n, rfl⟩ : ∃ n : Nat, o = (n : Int) := ⟨o.toNat, by omega⟩
      rw [Int.toNat_natCast] at E ⊢
      obtain ⟨p, hp⟩ : ∃ p, p = pw n := ⟨_, rfl⟩
      have L := hide (roomLong_calls n (by omega) w)
      have X := xor_bud a n r3 r4 (by omega)
      rw [← hp] at L X
      obtain ⟨y, hy⟩ : ∃ y, y = bud a n := ⟨_, rfl⟩
      rw [← hy] at X ⊢
      clear hb r5 h5 hy hp E
      go_enter Try.func152, Try.ntmps152
      go_wp2_with (first | (go_at_call 142; refine C.out.mono ?_; rintro e w' ⟨rfl, rfl⟩) | (go_at_call 150; refine L.out.mono ?_; rintro e w' ⟨rfl, rfl⟩))
      go_ret2
      exact ⟨rfl, rfl⟩

/-- The least order whose rooms have so many places. -/
def ordN (s : Int) : Nat := if s ≤ 1 then 0 else if s ≤ 2 then 1 else if s ≤ 4 then 2 else if s ≤ 8 then 3 else if s ≤ 16 then 4 else 5
theorem ordN_le (s : Int) : ordN s ≤ 5 := by
  unfold ordN
  repeat' split
  all_goals omega
theorem ordN_lt (s : Int) (h1 : 1 ≤ s) (h2 : s ≤ 32) (k : Nat) (hk : k ≤ ordN s) : pw k < s ↔ k < ordN s := by
  have h5 := ordN_le s
  have : k = 0 ∨ k = 1 ∨ k = 2 ∨ k = 3 ∨ k = 4 ∨ k = 5 := by omega
  unfold ordN at *
  rcases this with rfl | rfl | rfl | rfl | rfl | rfl
  all_goals
    simp only [pw0, pw1, pw2, pw3, pw4, pw5]
    repeat' split
    all_goals omega
abbrev orP (s : Int) : Prop := 1 ≤ s ∧ s ≤ 32
def orB (s : Int) : Bool := decide (orP s)
def orV (s : Int) : Int := if orB s = true then (ordN s : Int) else 0
theorem orB_yes {s : Int} (h : orP s) : orB s = true ∧ orV s = (ordN s : Int) := by
  have e : orB s = true := decide_eq_true h
  exact ⟨e, by unfold orV; rw [e]; rfl⟩
theorem orB_no {s : Int} (h : ¬ orP s) : orB s = false ∧ orV s = 0 := by
  have e : orB s = false := decide_eq_false h
  exact ⟨e, by unfold orV; rw [e]; rfl⟩

set_option maxRecDepth 100000 in
set_option maxHeartbeats 800000 in
theorem orderFor_calls (s : Int) (w : World) : Calls Try.prog 154 #[.int .i64 s] w fun e w' => e = .returned (.tuple #[.int .i64 (orV s), .bool (orB s)]) ∧ w = w' := by
  by_cases h1 : 1 ≤ s
  case neg =>
    rw [(orB_no (fun h => h1 h.1)).1, (orB_no (fun h => h1 h.1)).2]
    go_enter Try.func154, Try.ntmps154
    go_wp2
    go_ret2
    exact ⟨rfl, rfl⟩
  by_cases h2 : s ≤ 32
  case neg =>
    rw [(orB_no (fun h => h2 h.2)).1, (orB_no (fun h => h2 h.2)).2]
    go_enter Try.func154, Try.ntmps154
    go_wp2
    go_ret2
    exact ⟨rfl, rfl⟩
  rw [(orB_yes ⟨h1, h2⟩).1, (orB_yes ⟨h1, h2⟩).2]
  have LE := ordN_le s
  have LT := hide (ordN_lt s h1 h2)
  obtain ⟨N, hN⟩ : ∃ N, N = ordN s := ⟨_, rfl⟩
  rw [← hN] at LE LT ⊢
  clear hN
  go_enter Try.func154, Try.ntmps154
  go_wp2
  go_loop [4] (fun vk => ∃ k : Nat, k ≤ N ∧ vk = .int .i64 k) (fun vk => N - (intOf vk).toNat)
  case atStart => exact ⟨0, Nat.zero_le _, rfl⟩
  case round =>
    obtain ⟨k, hk, rfl⟩ := hrel
    have L := hide (roomLong_calls k (by omega) w)
    have T := LT.out k hk
    obtain ⟨p, hp⟩ : ∃ p, p = pw k := ⟨_, rfl⟩
    rw [← hp] at L T
    clear hp
    by_cases hlt : k < N
    · have hps := T.2 hlt
      clear T
      go_wp2_with (go_at_call 150; refine L.out.mono ?_; rintro e w' ⟨rfl, rfl⟩)
      go_round
      case rel => exact ⟨k + 1, by omega, by go_num⟩
      case measure => simp [intOf]; omega
    · have hps : s ≤ p := by
        have : ¬ p < s := fun h => hlt (T.1 h)
        omega
      obtain rfl : k = N := by omega
      clear T
      go_wp2_with (go_at_call 150; refine L.out.mono ?_; rintro e w' ⟨rfl, rfl⟩)
      go_ret2
      exact ⟨rfl, rfl⟩

def inB (a lo hi : Int) : Bool := decide (lo ≤ a ∧ a ≤ hi)
set_option maxRecDepth 100000 in
theorem l1InR_calls (a lo hi : Int) (w : World) : Calls Try.prog 68 #[.int .i64 a, .int .i64 lo, .int .i64 hi] w fun e w' => e = .returned (.bool (inB a lo hi)) ∧ w = w' := by
  by_cases h1 : lo ≤ a
  · by_cases h2 : a ≤ hi
    · have E : Hid (inB a lo hi = true) := decide_eq_true ⟨h1, h2⟩
      go_enter Try.func68, Try.ntmps68
      go_wp2
      go_ret
      exact ⟨by rw [E.out]; rfl, rfl⟩
    · have E : Hid (inB a lo hi = false) := decide_eq_false (fun h => h2 h.2)
      go_enter Try.func68, Try.ntmps68
      go_wp2
      go_ret
      exact ⟨by rw [E.out]; rfl, rfl⟩
  · have E : Hid (inB a lo hi = false) := decide_eq_false (fun h => h1 h.1)
    go_enter Try.func68, Try.ntmps68
    go_wp2
    go_ret
    exact ⟨by rw [E.out]; rfl, rfl⟩

set_option maxRecDepth 100000 in
set_option maxHeartbeats 800000 in
theorem l14Room_calls (a o : Int) (w : World) : Calls Try.prog 109 #[.int .i64 a, .int .i64 o] w fun e w' => e = .returned (.bool (rmB a o)) ∧ w = w' := by
  by_cases h1 : 0 ≤ o ∧ o ≤ 5
  case neg =>
    have E : Hid (rmB a o = false) := decide_eq_false (fun h => h1 ⟨h.1, h.2.1⟩)
    have C : Hid (inB o 0 5 = false) := decide_eq_false h1
    go_enter Try.func109, Try.ntmps109
    go_wp2_with (go_at_call 68; refine (l1InR_calls _ _ _ _).mono ?_; rw [C.out]; rintro e w' ⟨rfl, rfl⟩)
    go_ret
    exact ⟨by rw [E.out]; rfl, rfl⟩
  have C1 : Hid (inB o 0 5 = true) := decide_eq_true h1
  by_cases h2 : 0 ≤ a ∧ a ≤ 31
  case neg =>
    have E : Hid (rmB a o = false) := decide_eq_false (fun h => h2 ⟨h.2.2.1, by have := h.2.2.2.1; omega⟩)
    have C2 : Hid (inB a 0 31 = false) := decide_eq_false h2
    go_enter Try.func109, Try.ntmps109
    go_wp2_with fail
    refine (l1InR_calls _ _ _ _).mono ?_
    rw [C1.out]
    rintro e w' ⟨rfl, rfl⟩
    go_wp2_with fail
    refine (l1InR_calls _ _ _ _).mono ?_
    rw [C2.out]
    rintro e w' ⟨rfl, rfl⟩
    go_wp2
    go_ret
    exact ⟨by rw [E.out]; rfl, rfl⟩
  have C2 : Hid (inB a 0 31 = true) := decide_eq_true h2
  have a0 := h2.1
  have a1 : a < 32 := by omega
  have : o = 0 ∨ o = 1 ∨ o = 2 ∨ o = 3 ∨ o = 4 ∨ o = 5 := by omega
  have E : Hid (rmB a o = decide (a % pw o.toNat = 0)) := by
    show rmB a o = _
    unfold rmB rmP
    simp [a0, a1, h1.1, h1.2]
  clear h1 h2
  have : (o = 0 ∧ pw o.toNat = 1) ∨ (o = 1 ∧ pw o.toNat = 2) ∨ (o = 2 ∧ pw o.toNat = 4) ∨ (o = 3 ∧ pw o.toNat = 8) ∨ (o = 4 ∧ pw o.toNat = 16) ∨ (o = 5 ∧ pw o.toNat = 32) := by
    rcases this with rfl | rfl | rfl | rfl | rfl | rfl <;> decide
  rcases this with ⟨rfl, hp⟩ | ⟨rfl, hp⟩ | ⟨rfl, hp⟩ | ⟨rfl, hp⟩ | ⟨rfl, hp⟩ | ⟨rfl, hp⟩
  all_goals
    rw [hp] at E
    clear hp
    go_enter Try.func109, Try.ntmps109
    go_wp2_with fail
    refine (l1InR_calls _ _ _ _).mono ?_
    rw [C1.out]
    rintro e w' ⟨rfl, rfl⟩
    go_wp2_with fail
    refine (l1InR_calls _ _ _ _).mono ?_
    rw [C2.out]
    rintro e w' ⟨rfl, rfl⟩
    go_wp2
    go_ret
    refine ⟨?_, rfl⟩
    rw [E.out]
    first | rfl | (simp)
end Go.Proofs.Ytjffjoednmlkiaa
