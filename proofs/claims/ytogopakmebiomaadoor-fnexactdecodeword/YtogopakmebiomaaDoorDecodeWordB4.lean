/-
  Powers, inverses, quotients and orders as the program and its model make them, and the public functions of the field: each returns what the plain functions say, and leaves memory as it was. The program's table of rests must hold its seven numbers where the program's own functions are called. Elements of the field in lists: which integers are elements, which lists hold elements alone, which integers lie between two: the program's functions and its model's, call by call; memory stays as it was. No condition. The small functions of the field that later chapters call (products, quotients, inverses): the program's and its model's, call by call; memory stays as it was. The program's table of rests must hold its seven numbers where the program's own functions reckon. The public functions of the field (products, quotients, powers, orders), the program's and its model's, call by call: what each answers at good arguments and at all others; memory stays as it was. The program's table of rests must hold its seven numbers where the program's own functions are called. Multiples of a list added to another place by place: the program's function. The contract says what it asks. Polynomials over the field: which lists are taken, and their values, as the program and its model reckon them, call by call. The program's table of rests must hold its seven numbers where the program's own functions are called. The value of a polynomial: the program's EvalGf and its model's at good arguments and at all others; the law that holds the two against each other. The program's table of rests must hold its seven numbers where the program's own function is called. Multiples added place by place, noughts taken off the end, products of polynomials: the program's functions and its model's, call by call. Each contract says what it asks. Noughts taken off a list's end: the program's function and its model's, call by call: each answers new memory that holds the list without them. Each contract says what it asks. What the product of two polynomials comes to, as a plain function on lists; that the model's longer row, its noughts taken off, is the program's. Nothing of the program stands here but names. No condition. What the division of two polynomials comes to, as a plain function on lists; that the model's longer quotient, its noughts taken off, is the program's. No condition.
-/
import Derived.Test.YtogopakmebiomaaDoorDecodeWordB0
import Derived.Test.YtogopakmebiomaaDoorDecodeWordB2
import Derived.Deep.RegionWith
import Derived.Test.YtogopakmebiomaaDoorDecodeWordB1
namespace Go.Proofs.YtogopakmebiomaaDoor
open Go.RowKit
namespace Gf

theorem pw_step {f x y o T : Nat} (hy : y < 2 ^ f) (hf : f ≤ 17) (ho : o < 256) (hx : x < 256) (hp : 0 < y) (he : pw f x y o = T) :
    ∃ f', pw f' (mul x x) (y / 2) (if y % 2 = 1 then mul o x else o) = T ∧ y / 2 < 2 ^ f' ∧ f' ≤ 17 ∧ mul x x < 256 ∧ (if y % 2 = 1 then mul o x else o) < 256 := by
  cases f with
  | zero => simp at hy; omega
  | succ f =>
    refine ⟨f, he, by rw [Nat.pow_succ] at hy; omega, by omega, mul_lt hx, ?_⟩
    split
    · exact mul_lt ho
    · exact ho
theorem two_pow_17 {f y : Nat} (hf : f ≤ 17) (hy : y < 2 ^ f) : y < 131072 := by
  have : 2 ^ f ≤ 2 ^ 17 := Nat.pow_le_pow_right (by omega) hf
  omega

set_option maxRecDepth 100000 in
set_option maxHeartbeats 400000 in
theorem powE_calls (a n : Int) (w : World) (hT : Tab w) (ha0 : 0 ≤ a) (ha : a < 256) (hn0 : 0 ≤ n) (hn : n ≤ 100000) :
    Calls Tryd.prog 67 #[.int .i64 a, .int .i64 n] w fun e w' => e = .returned (.int .i64 (pow a.toNat n.toNat : Nat)) ∧ w = w' := by
  obtain ⟨A, rfl⟩ := Int.eq_ofNat_of_zero_le ha0
  obtain ⟨B, rfl⟩ := Int.eq_ofNat_of_zero_le hn0
  simp only [Int.toNat_natCast]
  have HT : Hid (Tab w) := hT
  clear hT
  go_enter Tryd.func67, Tryd.ntmps67
  go_wp2
  go_loop [1, 5, 6] (fun vn vo vx => ∃ f x y o : Nat, x < 256 ∧ y < 2 ^ f ∧ f ≤ 17 ∧ o < 256 ∧ vx = .int .i64 x ∧ vn = .int .i64 y ∧ vo = .int .i64 o ∧ pw f x y o = pow A B) (fun vn _ _ => (intOf vn).toNat)
  case atStart => exact ⟨17, A, B, 1, by omega, by omega, by omega, by omega, rfl, rfl, rfl, rfl⟩
  case round =>
    obtain ⟨f, x, y, o, hx, hy, hf, ho, rfl, rfl, rfl, he⟩ := hrel
    have He : Hid (pw f x y o = pow A B) := he
    clear he
    have hy32 := two_pow_17 hf hy
    by_cases hlt : 0 < y
    · have hlt' : (0 : Int) < (y : Int) := by omega
      obtain ⟨f', k1, k2, k3, k4, k5⟩ := pw_step hy hf ho hx hlt He.out
      by_cases hodd : y % 2 = 1
      · rw [if_pos hodd] at k1 k5
        have K : Hid (pw f' (mul x x) (y / 2) (mul o x) = pow A B ∧ y / 2 < 2 ^ f' ∧ f' ≤ 17 ∧ mul x x < 256 ∧ mul o x < 256) := ⟨k1, k2, k3, k4, k5⟩
        clear k1 k2 k3 k4 k5
        have hb : ((y : Int) % 2 == 1) = true := by simp; omega
        go_wp2_with (go_at_call 85; refine (mulE_calls _ _ _ HT.out (by omega) (by omega) (by omega) (by omega)).mono ?_; rintro e w' ⟨rfl, rfl⟩)
        obtain ⟨k1, k2, k3, k4, k5⟩ := K.out
        exact ⟨⟨f', mul x x, y / 2, mul o x, k4, k2, k3, k5, rfl, rfl, rfl, k1⟩, by simp [intOf]; omega⟩
      · rw [if_neg hodd] at k1 k5
        have K : Hid (pw f' (mul x x) (y / 2) o = pow A B ∧ y / 2 < 2 ^ f' ∧ f' ≤ 17 ∧ mul x x < 256 ∧ o < 256) := ⟨k1, k2, k3, k4, k5⟩
        clear k1 k2 k3 k4 k5
        have hb : ((y : Int) % 2 == 1) = false := by simp; omega
        go_wp2_with (go_at_call 85; refine (mulE_calls _ _ _ HT.out (by omega) (by omega) (by omega) (by omega)).mono ?_; rintro e w' ⟨rfl, rfl⟩)
        obtain ⟨k1, k2, k3, k4, k5⟩ := K.out
        exact ⟨⟨f', mul x x, y / 2, o, k4, k2, k3, k5, rfl, rfl, rfl, k1⟩, by simp [intOf]; omega⟩
    · obtain rfl : y = 0 := by omega
      go_wp2
      go_ret
      exact ⟨ret_int (by have := He.out; rw [pw_zero] at this; rw [this]), rfl⟩

set_option maxRecDepth 100000 in
set_option maxHeartbeats 400000 in
theorem l1Pow_calls (a n : Int) (w : World) (ha0 : 0 ≤ a) (ha : a < 256) (hn0 : 0 ≤ n) (hn : n ≤ 100000) :
    Calls Tryd.prog 123 #[.int .i64 a, .int .i64 n] w fun e w' => e = .returned (.int .i64 (pow a.toNat n.toNat : Nat)) ∧ w = w' := by
  obtain ⟨A, rfl⟩ := Int.eq_ofNat_of_zero_le ha0
  obtain ⟨B, rfl⟩ := Int.eq_ofNat_of_zero_le hn0
  simp only [Int.toNat_natCast]
  go_enter Tryd.func123, Tryd.ntmps123
  go_wp2
  go_loop [0, 1, 5] (fun vx vn vo => ∃ f x y o : Nat, x < 256 ∧ y < 2 ^ f ∧ f ≤ 17 ∧ o < 256 ∧ vx = .int .i64 x ∧ vn = .int .i64 y ∧ vo = .int .i64 o ∧ pw f x y o = pow A B) (fun _ vn _ => (intOf vn).toNat)
  case atStart => exact ⟨17, A, B, 1, by omega, by omega, by omega, by omega, rfl, rfl, rfl, rfl⟩
  case round =>
    obtain ⟨f, x, y, o, hx, hy, hf, ho, rfl, rfl, rfl, he⟩ := hrel
    have He : Hid (pw f x y o = pow A B) := he
    clear he
    have hy32 := two_pow_17 hf hy
    by_cases hlt : 0 < y
    · have hlt' : (0 : Int) < (y : Int) := by omega
      obtain ⟨f', k1, k2, k3, k4, k5⟩ := pw_step hy hf ho hx hlt He.out
      have ha1 := i64_and1 y (by omega)
      by_cases hodd : y % 2 = 1
      · rw [if_pos hodd] at k1 k5
        have K : Hid (pw f' (mul x x) (y / 2) (mul o x) = pow A B ∧ y / 2 < 2 ^ f' ∧ f' ≤ 17 ∧ mul x x < 256 ∧ mul o x < 256) := ⟨k1, k2, k3, k4, k5⟩
        clear k1 k2 k3 k4 k5
        have hb : (bits .and .i64 (y : Int) 1 == 1) = true := by rw [ha1]; simp; omega
        clear ha1
        go_wp2_with (go_at_call 128; refine (l1Mul_calls _ _ _ (by omega) (by omega) (by omega) (by omega)).mono ?_; rintro e w' ⟨rfl, rfl⟩)
        obtain ⟨k1, k2, k3, k4, k5⟩ := K.out
        exact ⟨⟨f', mul x x, y / 2, mul o x, k4, k2, k3, k5, rfl, rfl, rfl, k1⟩, by simp [intOf]; omega⟩
      · rw [if_neg hodd] at k1 k5
        have K : Hid (pw f' (mul x x) (y / 2) o = pow A B ∧ y / 2 < 2 ^ f' ∧ f' ≤ 17 ∧ mul x x < 256 ∧ o < 256) := ⟨k1, k2, k3, k4, k5⟩
        clear k1 k2 k3 k4 k5
        have hb : (bits .and .i64 (y : Int) 1 == 1) = false := by rw [ha1]; simp; omega
        clear ha1
        go_wp2_with (go_at_call 128; refine (l1Mul_calls _ _ _ (by omega) (by omega) (by omega) (by omega)).mono ?_; rintro e w' ⟨rfl, rfl⟩)
        obtain ⟨k1, k2, k3, k4, k5⟩ := K.out
        exact ⟨⟨f', mul x x, y / 2, o, k4, k2, k3, k5, rfl, rfl, rfl, k1⟩, by simp [intOf]; omega⟩
    · obtain rfl : y = 0 := by omega
      go_wp2
      go_ret
      exact ⟨ret_int (by have := He.out; rw [pw_zero] at this; rw [this]), rfl⟩
end Gf
end Go.Proofs.YtogopakmebiomaaDoor

namespace Go.Proofs.YtogopakmebiomaaDoor
open Go.RowKit
namespace Gf

theorem isE_yes (a : Int) (w : World) (ha0 : 0 ≤ a) (ha : a < 256) :
    Calls Tryd.prog 129 #[.int .i64 a] w fun e w' => e = .returned (.bool true) ∧ w = w' := by
  go_enter Tryd.func129, Tryd.ntmps129
  go_wp2
  go_ret
  exact ⟨rfl, rfl⟩
theorem l1In_yes (a lo hi : Int) (w : World) (ha0 : lo ≤ a) (ha : a ≤ hi) :
    Calls Tryd.prog 68 #[.int .i64 a, .int .i64 lo, .int .i64 hi] w fun e w' => e = .returned (.bool true) ∧ w = w' := by
  go_enter Tryd.func68, Tryd.ntmps68
  go_wp2
  go_ret
  exact ⟨rfl, rfl⟩
theorem l1Gf_yes (a : Int) (w : World) (ha0 : 0 ≤ a) (ha : a ≤ 255) :
    Calls Tryd.prog 125 #[.int .i64 a] w fun e w' => e = .returned (.bool true) ∧ w = w' := by
  go_enter Tryd.func125, Tryd.ntmps125
  go_wp2
  go_ret
  exact ⟨rfl, rfl⟩
/-- An owned slice that is not empty, opened. -/
theorem Own.open {w : World} {base : Nat} {v : Value} {xs : List Int} (h : Own w base v xs) (hn : 0 < xs.length) :
    ∃ g cap, v = .slice (some ⟨g, 0, none⟩) xs.length cap ∧ base ≤ g ∧ g < w.heap.size ∧ ∀ i, i < xs.length → w.cell? ⟨g, i, none⟩ = some (.int .i64 (xs.getD i 0)) := by
  rcases h.2 with ⟨_, h0⟩ | ⟨g, cap, cur, rfl, hb, hg, _⟩
  · omega
  · refine ⟨g, cap, rfl, hb, (Array.getElem?_eq_some_iff.1 hg).1, fun i hi => ?_⟩
    rw [World.ownsRow.cellAt h i (by omega)]
    simp [hi]

def elOk (x : Int) : Bool := decide (0 ≤ x ∧ x ≤ 255)
theorem ret_bool {a b : Bool} (h : a = b) : Ending.returned (.bool a) = .returned (.bool b) := by rw [h]
theorem elOk_iff {x : Int} : elOk x = true ↔ 0 ≤ x ∧ x ≤ 255 := by simp [elOk]
theorem elOk_no {x : Int} : elOk x = false ↔ ¬ (0 ≤ x ∧ x ≤ 255) := by simp [elOk]
theorem all_of_getD {xs : List Int} : (xs.all elOk = true) ↔ ∀ i, i < xs.length → elOk (xs.getD i 0) = true := by
  rw [List.all_eq_true]
  constructor
  · intro h i hi
    rw [List.getD_eq_getElem?_getD, List.getElem?_eq_getElem hi, Option.getD_some]
    exact h _ (List.getElem_mem hi)
  · intro h x hx
    obtain ⟨i, hi, rfl⟩ := List.mem_iff_getElem.1 hx
    have := h i hi
    rwa [List.getD_eq_getElem?_getD, List.getElem?_eq_getElem hi, Option.getD_some] at this
theorem all_bad {xs : List Int} {k : Nat} (hk : k < xs.length) (h : elOk (xs.getD k 0) = false) : xs.all elOk = false := by
  cases hh : xs.all elOk with
  | false => rfl
  | true => rw [all_of_getD.1 hh k hk] at h; cases h
/-- An element's outcome, in the walk's own form. -/
theorem elOk_tests {z : Int} (h : elOk z = true) : 0 ≤ z ∧ z < 256 := by have := elOk_iff.1 h; omega

set_option maxRecDepth 100000 in
theorem isE_calls (a : Int) (w : World) :
    Calls Tryd.prog 129 #[.int .i64 a] w fun e w' => e = .returned (.bool (elOk a)) ∧ w = w' := by
  by_cases h : 0 ≤ a
  · by_cases h2 : a < 256
    · have e : elOk a = true := elOk_iff.2 (by omega)
      rw [e]
      exact isE_yes a w h h2
    · have e : elOk a = false := elOk_no.2 (by omega)
      rw [e]
      go_enter Tryd.func129, Tryd.ntmps129
      go_wp2
      go_ret
      exact ⟨rfl, rfl⟩
  · have e : elOk a = false := elOk_no.2 (by omega)
    rw [e]
    go_enter Tryd.func129, Tryd.ntmps129
    go_wp2
    go_ret
    exact ⟨rfl, rfl⟩
set_option maxRecDepth 100000 in
theorem l1Gf_calls (a : Int) (w : World) :
    Calls Tryd.prog 125 #[.int .i64 a] w fun e w' => e = .returned (.bool (elOk a)) ∧ w = w' := by
  by_cases h : 0 ≤ a
  · by_cases h2 : a ≤ 255
    · have e : elOk a = true := elOk_iff.2 (by omega)
      rw [e]
      exact l1Gf_yes a w h h2
    · have e : elOk a = false := elOk_no.2 (by omega)
      rw [e]
      go_enter Tryd.func125, Tryd.ntmps125
      go_wp2
      go_ret
      exact ⟨rfl, rfl⟩
  · have e : elOk a = false := elOk_no.2 (by omega)
    rw [e]
    go_enter Tryd.func125, Tryd.ntmps125
    go_wp2
    go_ret
    exact ⟨rfl, rfl⟩

set_option maxRecDepth 100000 in
set_option maxHeartbeats 400000 in
theorem l1All_calls (v : Value) (xs : List Int) (w : World) (h : Rd w v xs) :
    Calls Tryd.prog 69 #[v] w fun e w' => e = .returned (.bool (xs.all elOk)) ∧ w = w' := by
  obtain ⟨a, cap, rfl, h1, h2, h3⟩ := h
  have hm : xs.length ≤ maxLen := by omega
  unfold maxLen at hm
  have H := hide h3
  clear h3 h2
  go_enter Tryd.func69, Tryd.ntmps69
  go_wp2
  go_loop [7] (fun vi => ∃ k : Nat, k ≤ xs.length ∧ vi = .int .i64 k ∧ ∀ i, i < k → elOk (xs.getD i 0) = true) (fun vi => xs.length - (intOf vi).toNat)
  case atStart => exact ⟨0, Nat.zero_le _, rfl, fun i hi => by omega⟩
  case round =>
    obtain ⟨k, hk, rfl, hall⟩ := hrel
    have A := hide hall
    clear hall
    by_cases hlt : k < xs.length
    · rcases H.out with h3 | ⟨b, off, rfl, hbs, hc⟩
      · subst h3; simp at hlt
      have hc1 := hc k hlt
      clear hc
      obtain ⟨z, hz⟩ : ∃ z, z = xs.getD k 0 := ⟨_, rfl⟩
      rw [← hz] at hc1
      have Z := hide hz
      clear hz
      cases hel : elOk z with
      | true =>
        go_wp2_with (go_at_call 125; refine (l1Gf_calls _ _).mono ?_; rintro e w' ⟨rfl, rfl⟩)
        go_round
        case rel =>
          refine ⟨k + 1, by omega, by go_num, fun i hi => ?_⟩
          by_cases e : i = k
          · subst e; rw [← Z.out]; exact hel
          · exact A.out i (by omega)
        case measure => simp [intOf]; omega
      | false =>
        go_wp2_with (go_at_call 125; refine (l1Gf_calls _ _).mono ?_; rintro e w' ⟨rfl, rfl⟩)
        go_ret
        exact ⟨ret_bool (by rw [all_bad hlt (by rw [← Z.out]; exact hel)]), rfl⟩
    · obtain rfl : k = xs.length := by omega
      go_wp2
      go_ret
      exact ⟨ret_bool (by rw [all_of_getD.2 A.out]), rfl⟩

theorem quiet_same {P : Program} {f : FuncId} {args : Array Value} {w : World} {n : Nat} {v : Value}
    (h : Calls P f args (w.drewN n) fun e w' => e = .returned v ∧ w.drewN n = w') : Calls P f args (w.drewN n) fun e w'' => e = .returned v ∧ ∃ m, w'' = w.drewN m :=
  h.mono fun _ _ ⟨he, hm⟩ => ⟨he, n, hm.symm⟩
set_option maxRecDepth 100000 in
set_option maxHeartbeats 400000 in
theorem areElements_calls (v : Value) (xs : List Int) (w : World) (h : Rd w v xs) :
    Calls Tryd.prog 72 #[v] w fun e w' => e = .returned (.bool (xs.all elOk)) ∧ w = w' := by
  obtain ⟨a, cap, rfl, h1, h2, h3⟩ := h
  have hm : xs.length ≤ maxLen := by omega
  unfold maxLen at hm
  have H := hide h3
  clear h3 h2
  go_enter Tryd.func72, Tryd.ntmps72
  go_wp2
  go_loop [7] (fun vi => ∃ k : Nat, k ≤ xs.length ∧ vi = .int .i64 k ∧ ∀ i, i < k → elOk (xs.getD i 0) = true) (fun vi => xs.length - (intOf vi).toNat)
  case atStart => exact ⟨0, Nat.zero_le _, rfl, fun i hi => by omega⟩
  case round =>
    obtain ⟨k, hk, rfl, hall⟩ := hrel
    have A := hide hall
    clear hall
    by_cases hlt : k < xs.length
    · rcases H.out with h3 | ⟨b, off, rfl, hbs, hc⟩
      · subst h3; simp at hlt
      have hc1 := hc k hlt
      clear hc
      obtain ⟨z, hz⟩ : ∃ z, z = xs.getD k 0 := ⟨_, rfl⟩
      rw [← hz] at hc1
      have Z := hide hz
      clear hz
      cases hel : elOk z with
      | true =>
        go_wp2_with (go_at_call 129; refine (isE_calls _ _).mono ?_; rintro e w' ⟨rfl, rfl⟩)
        go_round
        case rel =>
          refine ⟨k + 1, by omega, by go_num, fun i hi => ?_⟩
          by_cases e : i = k
          · subst e; rw [← Z.out]; exact hel
          · exact A.out i (by omega)
        case measure => simp [intOf]; omega
      | false =>
        go_wp2_with (go_at_call 129; refine (isE_calls _ _).mono ?_; rintro e w' ⟨rfl, rfl⟩)
        go_ret
        exact ⟨ret_bool (by rw [all_bad hlt (by rw [← Z.out]; exact hel)]), rfl⟩
    · obtain rfl : k = xs.length := by omega
      go_wp2
      go_ret
      exact ⟨ret_bool (by rw [all_of_getD.2 A.out]), rfl⟩
set_option maxRecDepth 100000 in
theorem l1In_calls (a lo hi : Int) (w : World) :
    Calls Tryd.prog 68 #[.int .i64 a, .int .i64 lo, .int .i64 hi] w fun e w' => e = .returned (.bool (decide (lo ≤ a ∧ a ≤ hi))) ∧ w = w' := by
  by_cases h : lo ≤ a
  · by_cases h2 : a ≤ hi
    · rw [decide_eq_true ⟨h, h2⟩]
      exact l1In_yes a lo hi w h h2
    · rw [decide_eq_false (fun e => h2 e.2)]
      go_enter Tryd.func68, Tryd.ntmps68
      go_wp2
      go_ret
      exact ⟨rfl, rfl⟩
  · rw [decide_eq_false (fun e => h e.1)]
    go_enter Tryd.func68, Tryd.ntmps68
    go_wp2
    go_ret
    exact ⟨rfl, rfl⟩
end Gf
end Go.Proofs.YtogopakmebiomaaDoor

namespace Go.Proofs.YtogopakmebiomaaDoor
open Go.RowKit
namespace Gf

theorem tab_setCell {B : Nat} {w w' : World} (hT : Tab w) (h0 : 0 < B) (hb : Below B w w') : Tab w' := fun k hk => (hb.cell (p := ⟨0, k, none⟩) h0).trans (hT k hk)
theorem tab_pos {w : World} (hT : Tab w) : 0 < w.heap.size := by
  have h := hT 0 (by decide)
  unfold World.cell? at h
  cases hh : w.heap[0]? with
  | none => simp [hh] at h
  | some o => exact (Array.getElem?_eq_some_iff.1 hh).1
theorem Tab.below {w w' : World} (hT : Tab w) (hb : Below w.heap.size w w') : Tab w' := tab_setCell hT (tab_pos hT) hb

set_option maxRecDepth 100000 in
set_option maxHeartbeats 400000 in
theorem inv_calls (a : Int) (w : World) (hT : Tab w) (ha0 : 0 ≤ a) (ha : a < 256) :
    Calls Tryd.prog 86 #[.int .i64 a] w fun e w' => e = .returned (.int .i64 (inv a.toNat : Nat)) ∧ w = w' := by
  have HT : Hid (Tab w) := hT
  clear hT
  go_enter Tryd.func86, Tryd.ntmps86
  go_wp2_with (go_at_call 67; refine (powE_calls _ _ _ HT.out (by omega) (by omega) (by omega) (by omega)).mono ?_; rintro e w' ⟨rfl, rfl⟩)
  go_ret
  exact ⟨rfl, rfl⟩
set_option maxRecDepth 100000 in
set_option maxHeartbeats 400000 in
theorem l1Div_calls (a b : Int) (w : World) (ha0 : 0 ≤ a) (ha : a < 256) (hb0 : 0 ≤ b) (hb : b < 256) :
    Calls Tryd.prog 127 #[.int .i64 a, .int .i64 b] w fun e w' => e = .returned (.int .i64 (mul a.toNat (inv b.toNat) : Nat)) ∧ w = w' := by
  have hi := inv_lt b.toNat
  have hi2 : ((inv b.toNat : Nat) : Int) < 256 := by omega
  go_enter Tryd.func127, Tryd.ntmps127
  go_wp2_with (first | (go_at_call 123; refine (l1Pow_calls _ _ _ (by omega) (by omega) (by omega) (by omega)).mono ?_; rintro e w' ⟨rfl, rfl⟩) | (go_at_call 128; refine (l1Mul_calls _ _ _ (by omega) (by omega) (Int.natCast_nonneg _) (by exact hi2)).mono ?_; rintro e w' ⟨rfl, rfl⟩))
  go_ret
  exact ⟨rfl, rfl⟩

set_option maxRecDepth 100000 in
set_option maxHeartbeats 400000 in

theorem Tab.drewN {w : World} (h : Tab w) (n : Nat) : Tab (w.drewN n) := h.below (below_drewN' n)
theorem xor_val {m : Nat} {z : Int} (hm : m < 256) (h0 : 0 ≤ z) (h : z ≤ 255) : bits .xor .i64 (m : Int) z = ((m ^^^ z.toNat : Nat) : Int) := by
  obtain ⟨Z, rfl⟩ := Int.eq_ofNat_of_zero_le h0
  rw [Int.toNat_natCast]
  exact i64_xor _ _ (by omega) (by omega)
theorem inv_ne {a : Nat} (ha : a < 256) (h0 : a ≠ 0) : inv a ≠ 0 := by
  intro h
  have := mul_inv a ha h0
  rw [h, mul_zero] at this
  cases this
theorem xor_lt {a b : Nat} (ha : a < 256) (hb : b < 256) : a ^^^ b < 256 := Nat.xor_lt_two_pow (n := 8) ha hb
theorem xor_zero_eq {a b : Nat} (h : a ^^^ b = 0) : a = b := by
  have := congrArg (fun t => t ^^^ b) h
  simp only [Nat.xor_assoc, Nat.xor_self, Nat.xor_zero, Nat.zero_xor] at this
  exact this
theorem mul_left (a b c : Nat) (ha : a < 256) (hb : b < 256) (hc : c < 256) : mul a (mul b c) = mul b (mul a c) := by
  rw [← mul_assoc a b c ha hb hc, mul_comm a b ha hb, mul_assoc b a c hb ha hc]

end Gf
end Go.Proofs.YtogopakmebiomaaDoor

namespace Go.Proofs.YtogopakmebiomaaDoor
open Go.RowKit
namespace Gf

end Gf
end Go.Proofs.YtogopakmebiomaaDoor

namespace Go.Proofs.YtogopakmebiomaaDoor
open Go.RowKit
namespace Gf

/-- A slice's length, for a loop's measure. -/
def lenOf : Value → Nat
  | .slice _ n _ => n
  | _ => 0
def ci (l : List Nat) : List Int := l.map fun n : Nat => (n : Int)
theorem ci_length (l : List Nat) : (ci l).length = l.length := by simp [ci]
theorem ci_getD (l : List Nat) (i : Nat) : (ci l).getD i 0 = ((l.getD i 0 : Nat) : Int) := by
  simp only [ci, List.getD_eq_getElem?_getD, List.getElem?_map]
  cases l[i]? <;> simp
theorem ci_set (l : List Nat) (i n : Nat) : (ci l).set i (n : Int) = ci (l.set i n) := by simp [ci, List.map_set]
def AllLt (l : List Nat) : Prop := ∀ i, l.getD i 0 < 256
theorem AllLt.set {l : List Nat} (h : AllLt l) (i n : Nat) (hn : n < 256) : AllLt (l.set i n) := by
  intro j
  have := h j
  simp only [List.getD_eq_getElem?_getD, List.getElem?_set] at *
  split
  · split <;> simp <;> omega
  · exact this

theorem wrap_i64 (n : Int) : IntKind.i64.wrap n = (n + 9223372036854775808) % 18446744073709551616 - 9223372036854775808 := by
  simp [IntKind.wrap, IntKind.bits, IntKind.signed]
  omega
def xorAt (s : List Nat) (i d : Nat) : List Nat := s.set i (s.getD i 0 ^^^ d)
def amTo (s q : List Nat) (f at_ : Nat) : Nat → List Nat
  | 0 => s
  | k + 1 => xorAt (amTo s q f at_ k) (at_ + k) (mul f (q.getD k 0))
theorem amTo_length (s q : List Nat) (f a k : Nat) : (amTo s q f a k).length = s.length := by
  induction k with
  | zero => rfl
  | succ k ih => simp [amTo, xorAt, ih]
theorem amTo_lt {s q : List Nat} {f a : Nat} (hs : AllLt s) (hf : f < 256) (k : Nat) : AllLt (amTo s q f a k) := by
  induction k with
  | zero => exact hs
  | succ k ih => exact ih.set _ _ (Nat.xor_lt_two_pow (n := 8) (ih _) (mul_lt hf))

theorem grownBy_drew {w w' : World} {row : Option Nat} (h : w.grownBy w' row) : w.grownBy w'.drew row := ⟨h.os, h.tape, h.output, h.size, h.block⟩
theorem grownBy_trans {w w' w'' : World} {row : Option Nat} (h : w.grownBy w' row) (k : w'.grownBy w'' row) : w.grownBy w'' row :=
  ⟨k.os.trans h.os, k.tape.trans h.tape, k.output.trans h.output, Nat.le_trans h.size k.size, fun j hj hne => (k.block j (Nat.lt_of_lt_of_le hj h.size) hne).trans (h.block j hj hne)⟩

set_option maxRecDepth 100000 in
set_option maxHeartbeats 800000 in
theorem addMultiple_calls (sv qv : Value) (s q : List Nat) (f a : Int) (base : Nat) (w : World) (hT : ∀ w', w.grownBy w' sv.ownBlock → Tab w') (hs : Own w base sv (ci s)) (hq : ∀ w', w.grownBy w' sv.ownBlock → Rd w' qv (ci q))
    (hf0 : 0 ≤ f) (hf : f < 256) (ha0 : 0 ≤ a) (hfit : a + q.length ≤ s.length) (hsl : s.length ≤ 1048576) (hsa : AllLt s) (hqa : AllLt q) (h0 : 0 < s.length) :
    Calls Tryd.prog 84 #[sv, qv, .int .i64 f, .int .i64 a] w fun e w' => e = .returned (.tuple #[]) ∧ Own w' base sv (ci (amTo s q f.toNat a.toNat q.length)) ∧ w.grownBy w' sv.ownBlock := by
  obtain ⟨F, rfl⟩ := Int.eq_ofNat_of_zero_le hf0
  obtain ⟨A, rfl⟩ := Int.eq_ofNat_of_zero_le ha0
  simp only [Int.toNat_natCast]
  obtain ⟨g, cap, rfl, hg1, hg2, _⟩ := Own.open hs (by rw [ci_length]; exact h0)
  rw [ci_length] at hs
  have Q := hide hq
  have T := hide hT
  have S : Hid (w.ownsRow base 3 1 (.slice (some ⟨g, 0, none⟩) s.length cap) s.length ((ci s).map (Value.int .i64))) := by
    have := hs
    unfold Own at this
    rwa [ci_length] at this
  have SA := hide hsa
  have QA := hide hqa
  obtain ⟨qa, qcap, rfl, hq1, hq2, _⟩ := hq w (World.grownBy.refl _ _)
  simp only [ci_length]
  rw [ci_length] at hq1
  clear hq hT hs hsa hqa
  go_enter Tryd.func84, Tryd.ntmps84
  go_wp2
  go_loopw [12] (fun vi wr => ∃ k : Nat, k ≤ q.length ∧ vi = .int .i64 k ∧ wr.ownsRow base 3 1 (.slice (some ⟨g, 0, none⟩) s.length cap) s.length ((ci (amTo s q F A k)).map (Value.int .i64)) ∧ w.grownBy wr (some g)) (fun vi _ => q.length - (intOf vi).toNat)
  case atStart => exact ⟨0, Nat.zero_le _, rfl, S.out, World.grownBy.refl _ _⟩
  case round =>
    obtain ⟨k, hk, rfl, hown, hgr⟩ := hrel
    by_cases hlt : k < q.length
    · obtain ⟨qa', qcap', hv, _, _, h3⟩ := Q.out wr hgr
      have hv2 : qa' = qa := by simp at hv; exact hv.1.symm
      subst hv2
      clear hv
      rcases h3 with h3 | ⟨b, off, rfl, hbs, hc⟩
      · have := congrArg List.length h3
        rw [ci_length] at this
        simp only [List.length_nil] at this; omega
      have hc1 := hc k (by rw [ci_length]; exact hlt)
      rw [ci_getD] at hc1
      clear hc
      have hc2 : wr.frozen? ⟨g, A + k, none⟩ = false := hown.frozenAt (A + k)
      have hc3 : wr.cell? ⟨g, A + k, none⟩ = some (.int .i64 ((amTo s q F A k).getD (A + k) 0 : Nat)) := by
        rw [hown.cellAt (A + k) (by omega), List.getElem?_map]
        have hl : A + k < (ci (amTo s q F A k)).length := by rw [ci_length, amTo_length]; omega
        rw [List.getElem?_eq_getElem hl]
        have := ci_getD (amTo s q F A k) (A + k)
        rw [List.getD_eq_getElem?_getD, List.getElem?_eq_getElem hl, Option.getD_some] at this
        rw [this]; rfl
      have e1 : ((A : Int) + (k : Int)).toNat = A + k := by omega
      have i1 : (0 : Int) ≤ (A : Int) + (k : Int) := by omega
      have i2 : (A : Int) + (k : Int) < (s.length : Int) := by omega
      have i3 : (k : Int) < (q.length : Int) := by omega
      have i4 : IntKind.i64.wrap ((A : Int) + (k : Int)) = (A : Int) + (k : Int) := by rw [wrap_i64]; omega
      obtain ⟨z, hz⟩ : ∃ z, z = q.getD k 0 := ⟨_, rfl⟩
      rw [← hz] at hc1
      obtain ⟨y, hy⟩ : ∃ y, y = (amTo s q F A k).getD (A + k) 0 := ⟨_, rfl⟩
      rw [← hy] at hc3
      have hz256 : z < 256 := by rw [hz]; exact QA.out k
      have hy256 : y < 256 := by rw [hy]; exact amTo_lt SA.out (by omega) k _
      have Z := hide hz
      have Y := hide hy
      have Tr := hide (T.out wr hgr)
      have G := hide hgr
      have O := hide hown
      clear hz hy hgr hown
      go_wp2
      go_region_with (go_at_call 85; refine (mulE_calls _ _ _ (by exact Tr.out) (by omega) (by omega) (by omega) (by omega)).mono ?_; rintro e w' ⟨rfl, rfl⟩)
      all_goals
        go_wp2
        go_roundw
        case rel =>
          refine ⟨k + 1, by omega, by go_num, ?_, ?_⟩
          · have := (O.out.stored (A + k) (.int .i64 (y ^^^ mul F z : Nat))).1
            rw [← List.map_set, ci_set, Y.out, Z.out] at this
            rw [i64_xor _ _ (by omega) (by have := mul_lt (a := F) (b := z) (by omega); omega), Y.out, Z.out]
            exact this.drew
          · exact grownBy_drew (grownBy_trans G.out (O.out.stored (A + k) _).2)
        case measure => simp [intOf]; omega
    · obtain rfl : k = q.length := by omega
      go_wp2
      go_end0
      refine ⟨rfl, ?_, hgr⟩
      show World.ownsRow _ _ _ _ _ (ci _).length _
      rw [ci_length, amTo_length]
      exact hown
def nat (xs : List Int) : List Nat := xs.map Int.toNat
theorem nat_length (xs : List Int) : (nat xs).length = xs.length := by simp [nat]
theorem allLt_zeros (n : Nat) : AllLt (List.replicate n 0) := by
  intro i
  rw [List.getD_eq_getElem?_getD, List.getElem?_replicate]
  split <;> simp

end Gf
end Go.Proofs.YtogopakmebiomaaDoor

namespace Go.Proofs.YtogopakmebiomaaDoor
open Go.RowKit
namespace Gf

def goodP (xs : List Int) : Bool := decide (xs.length ≤ 40) && xs.all elOk && (xs.isEmpty || xs.getD (xs.length - 1) 0 != 0)
theorem goodP_all {xs : List Int} (h : goodP xs = true) : ∀ i, i < xs.length → 0 ≤ xs.getD i 0 ∧ xs.getD i 0 ≤ 255 := by
  simp only [goodP, Bool.and_eq_true] at h
  exact fun i hi => elOk_iff.1 (all_of_getD.1 h.1.2 i hi)
theorem goodP_len {xs : List Int} (h : goodP xs = true) : xs.length ≤ 40 := by
  simp only [goodP, Bool.and_eq_true, decide_eq_true_eq] at h
  exact h.1.1
theorem goodP_last {xs : List Int} (h : goodP xs = true) (h0 : 0 < xs.length) : xs.getD (xs.length - 1) 0 ≠ 0 := by
  simp only [goodP, Bool.and_eq_true, decide_eq_true_eq] at h
  have h2 := h.2
  have : xs.isEmpty = false := by cases xs <;> simp_all
  rw [this, Bool.false_or, bne_iff_ne] at h2
  exact h2
theorem goodP_long {xs : List Int} (h : 40 < xs.length) : goodP xs = false := by
  have : decide (xs.length ≤ 40) = false := by simp; omega
  simp [goodP, this]
theorem goodP_bad {xs : List Int} (h : xs.all elOk = false) : goodP xs = false := by simp [goodP, h]
theorem goodP_nil : goodP [] = true := by decide
theorem goodP_fin {xs : List Int} (h : xs.length ≤ 40) (ha : xs.all elOk = true) (h0 : 0 < xs.length) : goodP xs = (xs.getD (xs.length - 1) 0 != 0) := by
  have h2 : xs.isEmpty = false := by cases xs <;> simp_all
  have h3 : decide (xs.length ≤ 40) = true := by simp; exact h
  simp only [goodP, h3, ha, h2, Bool.true_and, Bool.false_or]

set_option maxRecDepth 100000 in
set_option maxHeartbeats 400000 in
theorem isPoly_calls (v : Value) (xs : List Int) (w : World) (h : Rd w v xs) :
    Calls Tryd.prog 124 #[v] w fun e w' => e = .returned (.bool (goodP xs)) ∧ w = w' := by
  have R := hide h
  obtain ⟨a, cap, rfl, h1, h2, h3⟩ := h
  have hm : xs.length ≤ maxLen := by omega
  unfold maxLen at hm
  have H := hide h3
  clear h3 h2
  by_cases hlong : xs.length ≤ 40
  case neg =>
    rw [goodP_long (by omega)]
    have hl : (40 : Int) < (xs.length : Int) := by omega
    go_enter Tryd.func124, Tryd.ntmps124
    go_wp2
    go_ret
    exact ⟨rfl, rfl⟩
  have hl : ¬ (40 : Int) < (xs.length : Int) := by omega
  cases hall : xs.all elOk with
  | false =>
    rw [goodP_bad hall]
    have A := hide hall
    clear hall
    go_enter Tryd.func124, Tryd.ntmps124
    go_wp2_with fail
    refine (areElements_calls _ xs _ R.out).mono ?_
    rw [A.out]
    rintro e w' ⟨rfl, rfl⟩
    go_wp2
    go_ret
    exact ⟨rfl, rfl⟩
  | true =>
    have A := hide hall
    clear hall
    by_cases h0 : xs.length = 0
    · have e : xs = [] := List.eq_nil_of_length_eq_zero h0
      have eg : goodP xs = true := by rw [e]; exact goodP_nil
      rw [eg]
      have h0' : ((xs.length : Int) == 0) = true := by simp [h0]
      clear e eg h0
      go_enter Tryd.func124, Tryd.ntmps124
      go_wp2_with fail
      refine (areElements_calls _ xs _ R.out).mono ?_
      rw [A.out]
      rintro e w' ⟨rfl, rfl⟩
      go_wp2
      go_ret
      exact ⟨rfl, rfl⟩
    · rcases H.out with h3 | ⟨b, off, rfl, hbs, hc⟩
      · subst h3; simp at h0
      have hc1 := hc (xs.length - 1) (by omega)
      clear hc
      obtain ⟨z, hz⟩ : ∃ z, z = xs.getD (xs.length - 1) 0 := ⟨_, rfl⟩
      rw [← hz] at hc1
      have Z := hide hz
      clear hz
      have h0' : ((xs.length : Int) == 0) = false := by simp; intro e; simp [e] at h0
      have e1 : ((xs.length : Int) - 1).toNat = xs.length - 1 := by omega
      have e2 : (0 : Int) ≤ (xs.length : Int) - 1 := by omega
      have e3 : (xs.length : Int) - 1 < xs.length := by omega
      obtain ⟨res, hres⟩ : ∃ r, r = goodP xs := ⟨_, rfl⟩
      rw [← hres]
      have RS : Hid (res = (z != 0)) := by
        show res = (z != 0)
        rw [hres, goodP_fin hlong A.out (by omega), ← Z.out]
      clear hres
      go_enter Tryd.func124, Tryd.ntmps124
      go_wp2_with fail
      refine (areElements_calls _ xs _ R.out).mono ?_
      rw [A.out]
      rintro e w' ⟨rfl, rfl⟩
      go_wp2
      go_ret
      exact ⟨ret_bool RS.out.symm, rfl⟩

set_option maxRecDepth 100000 in
set_option maxHeartbeats 400000 in
theorem l1Poly_calls (v : Value) (xs : List Int) (w : World) (h : Rd w v xs) :
    Calls Tryd.prog 126 #[v] w fun e w' => e = .returned (.bool (goodP xs)) ∧ w = w' := by
  have R := hide h
  obtain ⟨a, cap, rfl, h1, h2, h3⟩ := h
  have H := hide h3
  clear h3 h2
  by_cases hlong : xs.length ≤ 40
  case neg =>
    rw [goodP_long (by omega)]
    have hl : ¬ (xs.length : Int) ≤ 40 := by omega
    go_enter Tryd.func126, Tryd.ntmps126
    go_wp2
    go_ret
    exact ⟨rfl, rfl⟩
  have hl : (xs.length : Int) ≤ 40 := by omega
  cases hal : xs.all elOk with
  | false =>
    rw [goodP_bad hal]
    go_enter Tryd.func126, Tryd.ntmps126
    go_wp2_with (go_at_call 69; refine (l1All_calls _ xs _ R.out).mono ?_; rw [hal]; rintro e w' ⟨rfl, rfl⟩)
    go_ret
    exact ⟨rfl, rfl⟩
  | true =>
    by_cases h0 : xs.length = 0
    · have e : xs = [] := List.eq_nil_of_length_eq_zero h0
      subst e
      go_enter Tryd.func126, Tryd.ntmps126
      go_wp2_with (go_at_call 69; refine (l1All_calls _ [] _ R.out).mono ?_; rintro e w' ⟨rfl, rfl⟩)
      go_ret
      exact ⟨ret_bool goodP_nil.symm, rfl⟩
    · rcases H.out with h3 | ⟨b, off, rfl, hbs, hc⟩
      · subst h3; simp at h0
      have hc1 := hc (xs.length - 1) (by omega)
      clear hc
      obtain ⟨z, hz⟩ : ∃ z, z = xs.getD (xs.length - 1) 0 := ⟨_, rfl⟩
      rw [← hz] at hc1
      have Z := hide hz
      have A := hide hal
      clear hz hal
      have h0' : ((xs.length : Int) == 0) = false := by simp; intro e; simp [e] at h0
      have e1 : ((xs.length : Int) - 1).toNat = xs.length - 1 := by omega
      have e2 : (0 : Int) ≤ (xs.length : Int) - 1 := by omega
      have e3 : (xs.length : Int) - 1 < xs.length := by omega
      go_enter Tryd.func126, Tryd.ntmps126
      go_wp2_with (go_at_call 69; refine (l1All_calls _ xs _ R.out).mono ?_; rw [A.out]; rintro e w' ⟨rfl, rfl⟩)
      go_ret
      exact ⟨ret_bool (by rw [goodP_fin hlong A.out (by omega), ← Z.out]), rfl⟩

/-- The value at x, from the highest down. -/
def ev (x : Nat) : List Int → Nat
  | [] => 0
  | c :: cs => mul (ev x cs) x ^^^ c.toNat
theorem ev_lt {x : Nat} : ∀ {xs : List Int}, (∀ c ∈ xs, 0 ≤ c ∧ c ≤ 255) → ev x xs < 256
  | [], _ => by simp [ev]
  | c :: cs, h => by
    have h1 := ev_lt (x := x) (xs := cs) (fun d hd => h d (List.mem_cons_of_mem _ hd))
    have h2 := h c (List.mem_cons_self ..)
    exact Nat.xor_lt_two_pow (n := 8) (mul_lt h1) (by omega)
theorem mem_bd {xs : List Int} (h : ∀ i, i < xs.length → 0 ≤ xs.getD i 0 ∧ xs.getD i 0 ≤ 255) : ∀ c ∈ xs, 0 ≤ c ∧ c ≤ 255 := by
  intro c hc
  obtain ⟨i, hi, rfl⟩ := List.mem_iff_getElem.1 hc
  have := h i hi
  rwa [List.getD_eq_getElem?_getD, List.getElem?_eq_getElem hi, Option.getD_some] at this
theorem ev_drop_lt {x j : Nat} {xs : List Int} (h : ∀ i, i < xs.length → 0 ≤ xs.getD i 0 ∧ xs.getD i 0 ≤ 255) : ev x (xs.drop j) < 256 :=
  ev_lt fun c hc => mem_bd h c (List.mem_of_mem_drop hc)
theorem ev_drop {x j : Nat} {xs : List Int} (hj : j < xs.length) : ev x (xs.drop j) = mul (ev x (xs.drop (j + 1))) x ^^^ (xs.getD j 0).toNat := by
  rw [List.drop_eq_getElem_cons hj, ev, List.getD_eq_getElem?_getD, List.getElem?_eq_getElem hj, Option.getD_some]
def evTo (x : Nat) (xs : List Int) (j : Nat) : Nat := ev x (xs.drop j)

set_option maxRecDepth 100000 in
set_option maxHeartbeats 400000 in
theorem l1Eval_calls (v : Value) (xs : List Int) (x : Int) (w : World) (h : Rd w v xs) (hx0 : 0 ≤ x) (hx : x ≤ 255) (hg : ∀ i, i < xs.length → 0 ≤ xs.getD i 0 ∧ xs.getD i 0 ≤ 255) :
    Calls Tryd.prog 130 #[v, .int .i64 x] w fun e w' => e = .returned (.int .i64 (ev x.toNat xs : Nat)) ∧ Below w.heap.size w w' := by
  obtain ⟨X, rfl⟩ := Int.eq_ofNat_of_zero_le hx0
  rw [Int.toNat_natCast]
  obtain ⟨a, cap, rfl, h1, h2, h3⟩ := h
  have hm : xs.length ≤ maxLen := by omega
  unfold maxLen at hm
  have H := hide h3
  have G := hide hg
  clear h3 h2 hg
  go_enter Tryd.func130, Tryd.ntmps130
  go_wp2
  go_loopw [5, 6] (fun vv vk wr => ∃ j : Nat, j ≤ xs.length ∧ vk = .int .i64 ((j : Int) - 1) ∧ vv = .int .i64 (evTo X xs j : Nat) ∧ Below w.heap.size w wr) (fun _ vk _ => (intOf vk + 1).toNat)
  case atStart => exact ⟨xs.length, Nat.le_refl _, rfl, by simp [evTo, ev], Below.refl _ _⟩
  case round =>
    obtain ⟨j, hj, rfl, rfl, hb⟩ := hrel
    by_cases hlt : 0 < j
    · obtain ⟨k, rfl⟩ : ∃ k, j = k + 1 := ⟨j - 1, by omega⟩
      rcases H.out with h3 | ⟨b, off, rfl, hbs, hc⟩
      · subst h3; simp at hj
      have hk : k < xs.length := by omega
      have hc1 : wr.cell? ⟨b, off + k, none⟩ = some (.int .i64 (xs.getD k 0)) := (hb.cell (by exact hbs)).trans (hc k hk)
      clear hc
      have hgk := G.out k hk
      obtain ⟨z, hz⟩ : ∃ z, z = xs.getD k 0 := ⟨_, rfl⟩
      rw [← hz] at hc1 hgk
      have Z := hide hz
      clear hz
      have hlt1 : evTo X xs (k + 1) < 256 := ev_drop_lt G.out
      obtain ⟨y, hy⟩ : ∃ y, y = evTo X xs (k + 1) := ⟨_, rfl⟩
      rw [← hy] at hlt1 ⊢
      have Y := hide hy
      clear hy
      have e0 : (((k + 1 : Nat) : Int) - 1) = (k : Int) := by omega
      rw [e0]
      go_wp2
      go_quiet ((go_at_call 128; exact quiet_same (l1Mul_calls _ _ _ (by omega) (by omega) (by omega) (by omega))))
      go_wp2
      go_roundw
      case rel =>
        refine ⟨k, by omega, by go_num, int_eq ?_, below_drewN hb _⟩
        rw [xor_val (mul_lt (by omega)) hgk.1 hgk.2]
        show _ = ((ev X (xs.drop k) : Nat) : Int)
        rw [ev_drop hk, ← Z.out]
        have := Y.out
        unfold evTo at this
        rw [← this]
      case measure => simp [intOf]
    · obtain rfl : j = 0 := by omega
      go_wp2
      go_ret
      exact ⟨rfl, hb⟩
end Gf
end Go.Proofs.YtogopakmebiomaaDoor

namespace Go.Proofs.YtogopakmebiomaaDoor
open Go.RowKit
namespace Gf

set_option maxRecDepth 100000 in
set_option maxHeartbeats 400000 in
theorem evalGf_bad (v : Value) (xs : List Int) (x : Int) (w : World) (h : Rd w v xs) (hg : goodP xs = false ∨ elOk x = false) :
    Calls Tryd.prog 78 #[v, .int .i64 x] w fun e w' => e = .returned (.tuple #[.int .i64 0, .bool false]) ∧ w = w' := by
  have R := hide h
  clear h
  cases hp : goodP xs with
  | false =>
    have G := hide hp
    clear hp hg
    go_enter Tryd.func78, Tryd.ntmps78
    go_wp2_with (go_at_call 124; refine (isPoly_calls v xs _ R.out).mono ?_; rw [G.out]; rintro e w' ⟨rfl, rfl⟩)
    go_ret2
    exact ⟨rfl, rfl⟩
  | true =>
    have G := hide hp
    have E : Hid (elOk x = false) := by rcases hg with h | h
                                        · rw [hp] at h; cases h
                                        · exact h
    clear hp hg
    go_enter Tryd.func78, Tryd.ntmps78
    go_wp2_with (first
      | (go_at_call 124; refine (isPoly_calls v xs _ R.out).mono ?_; rw [G.out]; rintro e w' ⟨rfl, rfl⟩)
      | (go_at_call 129; refine (isE_calls _ _).mono ?_; rw [E.out]; rintro e w' ⟨rfl, rfl⟩))
    go_ret2
    exact ⟨rfl, rfl⟩

set_option maxRecDepth 100000 in
set_option maxHeartbeats 400000 in
theorem evalGf_good (v : Value) (xs : List Int) (x : Int) (w : World) (hT : Tab w) (h : Rd w v xs) (hg : goodP xs = true) (hx0 : 0 ≤ x) (hx : x ≤ 255) :
    Calls Tryd.prog 78 #[v, .int .i64 x] w fun e w' => e = .returned (.tuple #[.int .i64 (ev x.toNat xs : Nat), .bool true]) ∧ Below w.heap.size w w' := by
  obtain ⟨X, rfl⟩ := Int.eq_ofNat_of_zero_le hx0
  rw [Int.toNat_natCast]
  have R := hide h
  have P := hide hg
  have G := hide (goodP_all hg)
  have T := hide hT
  clear hg hT
  obtain ⟨a, cap, rfl, h1, h2, h3⟩ := h
  have hm : xs.length ≤ maxLen := by omega
  unfold maxLen at hm
  have H := hide h3
  clear h3 h2
  have hx' : (X : Int) < 256 := by omega
  go_enter Tryd.func78, Tryd.ntmps78
  go_wp2_with (first
      | (go_at_call 124; refine (isPoly_calls _ xs _ R.out).mono ?_; rw [P.out]; rintro e w' ⟨rfl, rfl⟩)
      | (go_at_call 129; refine (isE_yes _ _ hx0 hx').mono ?_; rintro e w' ⟨rfl, rfl⟩))
  go_loopw [6, 7] (fun vv vk wr => ∃ j : Nat, j ≤ xs.length ∧ vk = .int .i64 ((j : Int) - 1) ∧ vv = .int .i64 (evTo X xs j : Nat) ∧ Below w.heap.size w wr) (fun _ vk _ => (intOf vk + 1).toNat)
  case atStart => exact ⟨xs.length, Nat.le_refl _, rfl, by simp [evTo, ev], Below.refl _ _⟩
  case round =>
    obtain ⟨j, hj, rfl, rfl, hb⟩ := hrel
    by_cases hlt : 0 < j
    · obtain ⟨k, rfl⟩ : ∃ k, j = k + 1 := ⟨j - 1, by omega⟩
      rcases H.out with h3 | ⟨b, off, rfl, hbs, hc⟩
      · subst h3; simp at hj
      have hk : k < xs.length := by omega
      have hc1 : wr.cell? ⟨b, off + k, none⟩ = some (.int .i64 (xs.getD k 0)) := (hb.cell (by exact hbs)).trans (hc k hk)
      clear hc
      have hgk := G.out k hk
      obtain ⟨z, hz⟩ : ∃ z, z = xs.getD k 0 := ⟨_, rfl⟩
      rw [← hz] at hc1 hgk
      have Z := hide hz
      clear hz
      have hlt1 : evTo X xs (k + 1) < 256 := ev_drop_lt G.out
      obtain ⟨y, hy⟩ : ∃ y, y = evTo X xs (k + 1) := ⟨_, rfl⟩
      rw [← hy] at hlt1 ⊢
      have Y := hide hy
      clear hy
      have e0 : (((k + 1 : Nat) : Int) - 1) = (k : Int) := by omega
      rw [e0]
      have Tr := hide (T.out.below hb)
      go_wp2
      go_quiet ((go_at_call 85; exact quiet_same (mulE_calls _ _ _ (Tr.out.drewN _) (by omega) (by omega) (by omega) (by omega))))
      go_wp2
      go_roundw
      case rel =>
        refine ⟨k, by omega, by go_num, int_eq ?_, below_drewN hb _⟩
        rw [xor_val (mul_lt (by omega)) hgk.1 hgk.2]
        show _ = ((ev X (xs.drop k) : Nat) : Int)
        rw [ev_drop hk, ← Z.out]
        have := Y.out
        unfold evTo at this
        rw [← this]
      case measure => simp [intOf]
    · obtain rfl : j = 0 := by omega
      go_wp2
      go_ret2
      exact ⟨rfl, hb⟩
end Gf

theorem IsRow.rd {w : World} {a : Option Addr} {len cap : Nat} {zs : List Int} (h : Frame.IsRow .i64 w a len cap zs) : Rd w (.slice a len cap) (zs.take len) := by
  rcases h with ⟨rfl, rfl, rfl, rfl⟩ | ⟨⟨b, off, sp⟩, rfl, hl, hm, hz, hc, _⟩
  · exact ⟨none, 0, rfl, Nat.le_refl _, ⟨Nat.zero_le _, fun _ => rfl⟩, .inl rfl⟩
  · have el : (zs.take len).length = len := by rw [List.length_take]; omega
    refine ⟨_, cap, by rw [el], by rw [el]; exact hl, ⟨hm, fun h => by cases h⟩, ?_⟩
    by_cases h0 : len = 0
    · left
      subst h0
      simp
    · right
      have h00 := hc 0 (by omega)
      obtain rfl : sp = none := by simpa [Addr.add] using World.cell?_spot h00
      refine ⟨b, off, rfl, ?_, ?_⟩
      · have : w.cell? ⟨b, off, none⟩ = some (.int .i64 (zs.getD 0 0)) := by simpa [Addr.add] using h00
        unfold World.cell? at this
        cases hh : w.heap[b]? with
        | none => simp [hh] at this
        | some o => exact (Array.getElem?_eq_some_iff.1 hh).1
      · intro i hi
        rw [el] at hi
        have := hc i (by omega)
        have hadd : (⟨b, off, none⟩ : Addr).add i = ⟨b, off + i, none⟩ := by unfold Addr.add; split <;> simp_all
        rw [hadd] at this
        rw [this, List.getD_eq_getElem?_getD, List.getD_eq_getElem?_getD, List.getElem?_take, if_pos hi]

end Go.Proofs.YtogopakmebiomaaDoor

namespace Go.Proofs.YtogopakmebiomaaDoor
open Go.RowKit
namespace Gf

end Gf
end Go.Proofs.YtogopakmebiomaaDoor

namespace Go.Proofs.YtogopakmebiomaaDoor
open Go.RowKit

def cutN (xs : List Int) : Nat → Nat
  | 0 => 0
  | n + 1 => if xs.getD n 0 = 0 then cutN xs n else n + 1
theorem cutN_le (xs : List Int) (n : Nat) : cutN xs n ≤ n := by
  induction n with
  | zero => exact Nat.le_refl _
  | succ n ih =>
    simp only [cutN]
    split
    · omega
    · exact Nat.le_refl _
def cutL (xs : List Int) : List Int := xs.take (cutN xs xs.length)
theorem cutL_length (xs : List Int) : (cutL xs).length = cutN xs xs.length := by
  have := cutN_le xs xs.length
  simp [cutL]; omega
set_option maxRecDepth 100000 in
set_option maxHeartbeats 800000 in
theorem without_calls (v : Value) (xs : List Int) (w : World) (h : Rd w v xs) (hlen : xs.length ≤ 1048576) :
    Calls Tryd.prog 75 #[v] w fun e w' => ∃ v', e = .returned v' ∧ Own w' w.heap.size v' (cutL xs) ∧ Below w.heap.size w w' := by
  have R := hide h
  obtain ⟨a, cap, rfl, h1, h2, h3⟩ := h
  have H := hide h3
  clear h3
  go_enter Tryd.func75, Tryd.ntmps75
  go_wp2
  go_loop [3] (fun vn => ∃ n : Nat, n ≤ xs.length ∧ vn = .int .i64 n ∧ cutN xs n = cutN xs xs.length) (fun vn => (intOf vn).toNat)
  case atStart => exact ⟨xs.length, Nat.le_refl _, rfl, rfl⟩
  case round =>
    obtain ⟨n, hn, rfl, hcut⟩ := hrel
    have C := hide hcut
    clear hcut
    by_cases hmore : ∃ m, n = m + 1 ∧ xs.getD m 0 = 0
    · obtain ⟨m, rfl, hz⟩ := hmore
      rcases H.out with h3 | ⟨b, off, rfl, hbs, hc⟩
      · subst h3; simp at hn
      have hc1 := hc m (by omega)
      rw [hz] at hc1
      clear hc
      have Z := hide hz
      clear hz
      have e0 : (((m + 1 : Nat) : Int) - 1) = (m : Int) := by omega
      go_wp2
      go_round
      case rel =>
        refine ⟨m, by omega, by go_num, ?_⟩
        have := C.out
        rw [cutN, if_pos Z.out] at this
        exact this
      case measure => simp [intOf]
    · have hfin : cutN xs n = n := by
        cases n with
        | zero => rfl
        | succ m => rw [cutN, if_neg (fun e => hmore ⟨m, rfl, e⟩)]
      have hN : Hid (n = cutN xs xs.length) := hfin.symm.trans C.out
      have stop : (n = 0 ∧ True) ∨ ∃ m, n = m + 1 ∧ xs.getD m 0 ≠ 0 := by
        cases n with
        | zero => exact .inl ⟨rfl, trivial⟩
        | succ m => exact .inr ⟨m, rfl, fun e => hmore ⟨m, rfl, e⟩⟩
      clear hfin hmore C
      have fin : ∀ w0 w1 : World, Own w1 w.heap.size (.slice (some ⟨w.heap.size, 0, none⟩) n n) (xs.take n) → Own w1 w.heap.size (.slice (some ⟨w.heap.size, 0, none⟩) n n) (cutL xs) := by
        intro _ w1 ho
        unfold cutL
        rw [← hN.out]
        exact ho
      have FIN := hide fin
      clear fin
      rcases stop with ⟨h0, _⟩ | ⟨m, h0, hne⟩
      · subst h0
        go_wp2_with (first
          | (at_make; refine wpList_make_ints rfl _ _ rfl w.heap.size _ _ 0 rfl rfl rfl rfl (by omega) (Nat.le_refl _) ?_; intro w0 hown0 hgrow0)
          | (refine wpList_copy_fresh rfl _ _ rfl w.heap.size w.heap.size 0 _ rfl hown0 _ rfl xs (by exact R.out.below ((Below.refl _ _).grown hgrow0 (Nat.le_refl _) (fun k h => by cases h))) hn (Nat.le_refl _) (by unfold maxLen; omega) w.heap.size w ((Below.refl _ _).grown hgrow0 (Nat.le_refl _) (fun k h => by cases h)) (Nat.le_refl _) ?_; intro w1 hown1 hb1 hg1))
        go_ret
        exact ⟨_, rfl, FIN.out w0 w1 hown1, hb1⟩
      · subst h0
        rcases H.out with h3 | ⟨b, off, rfl, hbs, hc⟩
        · subst h3; simp at hn
        have hc1 := hc m (by omega)
        obtain ⟨z, hz⟩ : ∃ z, z = xs.getD m 0 := ⟨_, rfl⟩
        rw [← hz] at hc1 hne
        clear hz hc
        have hz' : (z == 0) = false := by simp; exact hne
        have e0 : (((m + 1 : Nat) : Int) - 1) = (m : Int) := by omega
        go_wp2_with (first
          | (at_make; refine wpList_make_ints rfl _ _ rfl w.heap.size _ _ (m + 1) rfl rfl (by omega) (by omega) (by omega) (Nat.le_refl _) ?_; intro w0 hown0 hgrow0)
          | (refine wpList_copy_fresh rfl _ _ rfl w.heap.size w.heap.size (m + 1) _ rfl hown0 _ rfl xs (by exact R.out.below ((Below.refl _ _).grown hgrow0 (Nat.le_refl _) (fun k h => by cases h))) hn (Nat.le_refl _) (by unfold maxLen; omega) w.heap.size w ((Below.refl _ _).grown hgrow0 (Nat.le_refl _) (fun k h => by cases h)) (Nat.le_refl _) ?_; intro w1 hown1 hb1 hg1))
        go_ret
        exact ⟨_, rfl, FIN.out w0 w1 hown1, hb1⟩

theorem rd_takep {w : World} {a : Option Addr} {cap n : Nat} {xs : List Int} (h : Rd w (.slice a xs.length cap) xs) (hn : n ≤ xs.length) : Rd w (.slice a n cap) (xs.take n) := by
  obtain ⟨a', cap', hv, h1, h2, h3⟩ := h
  simp only [Value.slice.injEq, true_and] at hv
  obtain ⟨rfl, rfl⟩ := hv
  have hl : (xs.take n).length = n := by rw [List.length_take]; omega
  refine ⟨a, cap, by rw [hl], by omega, h2, ?_⟩
  by_cases h0 : n = 0
  · left; subst h0; simp
  · rcases h3 with h3 | ⟨b, off, rfl, hb, hc⟩
    · subst h3; simp at hn; exact absurd hn h0
    · refine .inr ⟨b, off, rfl, hb, fun i hi => ?_⟩
      rw [hl] at hi
      rw [hc i (by omega), List.getD_eq_getElem?_getD, List.getD_eq_getElem?_getD, List.getElem?_take, if_pos hi]

set_option maxRecDepth 100000 in
set_option maxHeartbeats 800000 in
theorem l1Cut_calls (v : Value) (xs : List Int) (w : World) (h : Rd w v xs) (hlen : xs.length ≤ 1048576) :
    Calls Tryd.prog 71 #[v] w fun e w' => ∃ v', e = .returned v' ∧ Own w' w.heap.size v' (cutL xs) ∧ Below w.heap.size w w' := by
  have R := hide h
  obtain ⟨a, cap, rfl, h1, h2, h3⟩ := h
  have hcm := h2.1
  unfold maxLen at hcm
  have H := hide h3
  clear h3 h2
  go_enter Tryd.func71, Tryd.ntmps71
  go_wp2
  go_loop [0] (fun vp => ∃ n : Nat, n ≤ xs.length ∧ vp = .slice a n cap ∧ cutN xs n = cutN xs xs.length) (fun vp => Gf.lenOf vp)
  case atStart => exact ⟨xs.length, Nat.le_refl _, rfl, rfl⟩
  case round =>
    obtain ⟨n, hn, rfl, hcut⟩ := hrel
    have C := hide hcut
    clear hcut
    by_cases hmore : ∃ m, n = m + 1 ∧ xs.getD m 0 = 0
    · obtain ⟨m, rfl, hz⟩ := hmore
      rcases H.out with h3 | ⟨b, off, rfl, hbs, hc⟩
      · subst h3; simp at hn
      have hc1 := hc m (by omega)
      rw [hz] at hc1
      clear hc
      have Z := hide hz
      clear hz
      have e0 : (((m + 1 : Nat) : Int) - 1) = (m : Int) := by omega
      have e1 : (m : Int) ≤ (cap : Int) := by omega
      go_wp2
      go_round
      case rel =>
        refine ⟨m, by omega, ?_, ?_⟩
        · first | rfl | simp
        · have := C.out
          rw [cutN, if_pos Z.out] at this
          exact this
      case measure => simp [Gf.lenOf]
    · have hfin : cutN xs n = n := by
        cases n with
        | zero => rfl
        | succ m => rw [cutN, if_neg (fun e => hmore ⟨m, rfl, e⟩)]
      have hN : Hid (n = cutN xs xs.length) := hfin.symm.trans C.out
      have stop : (n = 0 ∧ True) ∨ ∃ m, n = m + 1 ∧ xs.getD m 0 ≠ 0 := by
        cases n with
        | zero => exact .inl ⟨rfl, trivial⟩
        | succ m => exact .inr ⟨m, rfl, fun e => hmore ⟨m, rfl, e⟩⟩
      clear hfin hmore C
      have RR : Hid (Rd (w.alloc (.cells #[] 3)) (.slice a n cap) (cutL xs)) := by
        have := rd_takep R.out hn
        unfold cutL
        rw [← hN.out]
        exact this.below ((Below.refl _ _).alloc (Nat.le_refl _) _)
      have OO : Hid (Own (w.alloc (.cells #[] 3)) w.heap.size (.slice (some ⟨w.heap.size, 0, none⟩) 0 0) []) :=
        World.ownsRow_lit w #[] 0 (Nat.le_refl _) (Nat.zero_le _) (by rfl)
      have LL : Hid (0 + (cutL xs).length ≤ 1073741824) := by
        have := cutL_length xs
        have := cutN_le xs xs.length
        show 0 + (cutL xs).length ≤ 1073741824
        omega
      rcases stop with ⟨h0, _⟩ | ⟨m, h0, hne⟩
      · subst h0
        go_wp2_with (at_builtin; refine wpList_append_rd rfl _ _ rfl w.heap.size _ 0 [] (cutL xs) rfl OO.out _ rfl RR.out LL.out (by simp) ?_; intro v' w1 hown1 hg1)
        go_ret
        refine ⟨_, rfl, hown1, ((Below.refl _ _).alloc (Nat.le_refl _) _).grown hg1 (by simp) ?_⟩
        exact fun k hk => (OO.out.lt k hk).1
      · subst h0
        rcases H.out with h3 | ⟨b, off, rfl, hbs, hc⟩
        · subst h3; simp at hn
        have hc1 := hc m (by omega)
        obtain ⟨z, hz⟩ : ∃ z, z = xs.getD m 0 := ⟨_, rfl⟩
        rw [← hz] at hc1 hne
        clear hz hc
        have hz' : (z == 0) = false := by simp; exact hne
        have e0 : (((m + 1 : Nat) : Int) - 1) = (m : Int) := by omega
        go_wp2_with (at_builtin; refine wpList_append_rd rfl _ _ rfl w.heap.size _ 0 [] (cutL xs) rfl OO.out _ rfl RR.out LL.out (by simp) ?_; intro v' w1 hown1 hg1)
        go_ret
        refine ⟨_, rfl, hown1, ((Below.refl _ _).alloc (Nat.le_refl _) _).grown hg1 (by simp) ?_⟩
        exact fun k hk => (OO.out.lt k hk).1
end Go.Proofs.YtogopakmebiomaaDoor

namespace Go.Proofs.YtogopakmebiomaaDoor
namespace Gf

theorem ci_natp {xs : List Int} (h : ∀ c ∈ xs, 0 ≤ c ∧ c ≤ 255) : ci (nat xs) = xs := by
  simp only [ci, nat, List.map_map]
  conv => rhs; rw [← List.map_id xs]
  apply List.map_congr_left
  intro c hc
  have := h c hc
  simp; omega
theorem nat_ltp {xs : List Int} (h : ∀ c ∈ xs, 0 ≤ c ∧ c ≤ 255) : AllLt (nat xs) := by
  intro i
  simp only [nat, List.getD_eq_getElem?_getD, List.getElem?_map]
  cases hx : xs[i]? with
  | none => simp
  | some c =>
    have := h c (List.mem_of_getElem? hx)
    simp; omega
theorem goodP_mem {xs : List Int} (h : goodP xs = true) : ∀ c ∈ xs, 0 ≤ c ∧ c ≤ 255 := mem_bd (goodP_all h)
/-- The product so far: behind k factors of the first. -/
def mp (p q s0 : List Nat) : Nat → List Nat
  | 0 => s0
  | k + 1 => amTo (mp p q s0 k) q (p.getD k 0) k q.length
theorem mp_length (p q s0 : List Nat) (k : Nat) : (mp p q s0 k).length = s0.length := by
  induction k with
  | zero => rfl
  | succ k ih => simp [mp, amTo_length, ih]
theorem mp_lt {p q s0 : List Nat} (hs : AllLt s0) (hp : AllLt p) (k : Nat) : AllLt (mp p q s0 k) := by
  induction k with
  | zero => exact hs
  | succ k ih => exact amTo_lt ih (hp k) _

theorem amTo_app {s q : List Nat} {f a : Nat} (k : Nat) (h : a + k ≤ s.length) : amTo (s ++ [0]) q f a k = amTo s q f a k ++ [0] := by
  induction k with
  | zero => rfl
  | succ k ih =>
    have hl := amTo_length s q f a k
    rw [amTo, amTo, ih (by omega), xorAt, xorAt, List.set_append_left _ _ (by omega)]
    congr 2
    simp only [List.getD_eq_getElem?_getD]
    rw [List.getElem?_append_left (by omega)]
theorem mp_app {p q s0 : List Nat} (k : Nat) (hk : k ≤ p.length) (hs : p.length + q.length ≤ s0.length + 1) : mp p q (s0 ++ [0]) k = mp p q s0 k ++ [0] := by
  induction k with
  | zero => rfl
  | succ k ih => rw [mp, mp, ih (by omega), amTo_app _ (by rw [mp_length]; omega)]
theorem amTo_far {s q : List Nat} {f a i : Nat} (k : Nat) (h : a + k ≤ i) : (amTo s q f a k).getD i 0 = s.getD i 0 := by
  induction k with
  | zero => rfl
  | succ k ih =>
    rw [amTo, xorAt, List.getD_eq_getElem?_getD, List.getElem?_set_ne (by omega), ← List.getD_eq_getElem?_getD, ih (by omega)]
theorem mp_far {p q s0 : List Nat} {i : Nat} (k : Nat) (h : k + q.length ≤ i + 1) : (mp p q s0 k).getD i 0 = s0.getD i 0 := by
  induction k with
  | zero => rfl
  | succ k ih => rw [mp, amTo_far _ (by omega), ih (by omega)]
theorem mp_top {p q : List Nat} {n : Nat} (hp : 0 < p.length) (hq : 0 < q.length) (hn : n + 1 = p.length + q.length) :
    (mp p q (List.replicate n 0) p.length).getD (n - 1) 0 = mul (p.getD (p.length - 1) 0) (q.getD (q.length - 1) 0) := by
  obtain ⟨a, ha⟩ : ∃ a, p.length = a + 1 := ⟨p.length - 1, by omega⟩
  obtain ⟨b, hb⟩ : ∃ b, q.length = b + 1 := ⟨q.length - 1, by omega⟩
  have e1 : n - 1 = a + b := by omega
  rw [ha, hb, mp, hb, amTo, xorAt, e1]
  have hl : a + b < (amTo (mp p q (List.replicate n 0) a) q (p.getD a 0) a b).length := by rw [amTo_length, mp_length, List.length_replicate]; omega
  rw [List.getD_eq_getElem?_getD, List.getElem?_set_self hl, Option.getD_some, amTo_far b (Nat.le_refl _), mp_far a (by omega)]
  have : (List.replicate n 0).getD (a + b) 0 = 0 := by
    simp only [List.getD_eq_getElem?_getD, List.getElem?_replicate]
    split <;> simp
  rw [this, Nat.zero_xor]
  simp
theorem cutN_zero {xs : List Int} : ∀ n, (∀ i, i < n → xs.getD i 0 = 0) → cutN xs n = 0
  | 0, _ => rfl
  | n + 1, h => by rw [cutN, if_pos (h n (by omega))]; exact cutN_zero n (fun i hi => h i (by omega))
theorem cutL_zeros (n : Nat) : cutL (ci (List.replicate n 0)) = [] := by
  unfold cutL
  rw [cutN_zero, List.take_zero]
  intro i _
  rw [ci_getD]
  simp only [List.getD_eq_getElem?_getD, List.getElem?_replicate]
  split <;> simp
theorem cutL_one {l : List Nat} (h0 : 0 < l.length) (h : l.getD (l.length - 1) 0 ≠ 0) : cutL (ci l) = ci l := by
  obtain ⟨n, hn⟩ : ∃ n, l.length = n + 1 := ⟨l.length - 1, by omega⟩
  have e : cutN (ci l) (ci l).length = (ci l).length := by
    rw [ci_length, hn, cutN, if_neg]
    rw [ci_getD]
    rw [hn, Nat.add_sub_cancel] at h
    omega
  unfold cutL
  rw [e, List.take_length]
theorem cutL_app {l : List Nat} (m : Nat) (h0 : 0 < l.length) (h : l.getD (l.length - 1) 0 ≠ 0) : cutL (ci (l ++ List.replicate m 0)) = ci l := by
  have hstep : ∀ j, j ≤ m → cutN (ci (l ++ List.replicate m 0)) (l.length + j) = l.length := by
    intro j
    induction j with
    | zero =>
      intro _
      obtain ⟨n, hn⟩ : ∃ n, l.length = n + 1 := ⟨l.length - 1, by omega⟩
      rw [Nat.add_zero, hn, cutN, if_neg]
      rw [ci_getD]
      have : (l ++ List.replicate m 0).getD n 0 = l.getD n 0 := by
        simp only [List.getD_eq_getElem?_getD]
        rw [List.getElem?_append_left (by omega)]
      rw [this]
      rw [hn, Nat.add_sub_cancel] at h
      omega
    | succ j ih =>
      intro hj
      rw [← Nat.add_assoc, cutN, if_pos]
      · exact ih (by omega)
      · rw [ci_getD]
        simp only [List.getD_eq_getElem?_getD]
        rw [List.getElem?_append_right (by omega), List.getElem?_replicate]
        split <;> simp
  unfold cutL
  have e : (ci (l ++ List.replicate m 0)).length = l.length + m := by rw [ci_length]; simp
  rw [e, hstep m (Nat.le_refl _)]
  simp [ci]

/-- What the product comes to. -/
def mulR (xs ys : List Int) : List Int × Bool :=
  if goodP xs = true ∧ goodP ys = true then
    if xs.length = 0 ∨ ys.length = 0 then ([], true)
    else if 40 < xs.length + ys.length - 1 then ([], false)
    else (ci (mp (nat xs) (nat ys) (List.replicate (xs.length + ys.length - 1) 0) xs.length), true)
  else ([], false)
theorem last_nat {xs : List Int} (h : goodP xs = true) (h0 : 0 < xs.length) : (nat xs).getD (xs.length - 1) 0 ≠ 0 := by
  have h1 := goodP_last h h0
  have h2 := goodP_all h (xs.length - 1) (by omega)
  have e : (nat xs).getD (xs.length - 1) 0 = (xs.getD (xs.length - 1) 0).toNat := by
    simp only [nat, List.getD_eq_getElem?_getD, List.getElem?_map]
    cases xs[xs.length - 1]? <;> simp
  rw [e]
  omega
/-- The model's row, its noughts taken off, is the program's. -/
theorem cut_mp {xs ys : List Int} (hx : goodP xs = true) (hy : goodP ys = true) (h0 : 0 < xs.length) (h1 : 0 < ys.length) :
    cutL (ci (mp (nat xs) (nat ys) (List.replicate (xs.length + ys.length) 0) xs.length)) = ci (mp (nat xs) (nat ys) (List.replicate (xs.length + ys.length - 1) 0) xs.length) := by
  obtain ⟨n, hn⟩ : ∃ n, xs.length + ys.length = n + 1 := ⟨xs.length + ys.length - 1, by omega⟩
  have hn1 : n + 1 = (nat xs).length + (nat ys).length := by rw [nat_length, nat_length]; omega
  have e : List.replicate (n + 1) 0 = List.replicate n 0 ++ [0] := List.replicate_succ'
  have hlen : xs.length ≤ (nat xs).length := by rw [nat_length]; exact Nat.le_refl _
  rw [hn, Nat.add_sub_cancel, e, mp_app xs.length hlen (by rw [List.length_replicate]; omega)]
  have hl : (mp (nat xs) (nat ys) (List.replicate n 0) xs.length).length = n := by rw [mp_length, List.length_replicate]
  have htop := mp_top (p := nat xs) (q := nat ys) (n := n) (by rw [nat_length]; exact h0) (by rw [nat_length]; exact h1) hn1
  rw [nat_length, nat_length] at htop
  refine cutL_app 1 (by rw [hl]; omega) ?_
  rw [hl, htop]
  intro h
  have := mul_eq_zero _ _ (nat_ltp (goodP_mem hx) _) (nat_ltp (goodP_mem hy) _) h
  rcases this with h | h
  · exact last_nat hx h0 h
  · exact last_nat hy h1 h
theorem mp_nil_q {p s0 : List Nat} (k : Nat) : mp p [] s0 k = s0 := by
  induction k with
  | zero => rfl
  | succ k ih => rw [mp, ih]; rfl
end Gf
end Go.Proofs.YtogopakmebiomaaDoor

namespace Go.Proofs.YtogopakmebiomaaDoor
namespace Gf

/-- One step of the division at place k: the quotient's number there. -/
def dq (left q : List Nat) (k : Nat) : Nat := mul (left.getD (k + q.length - 1) 0) (inv (q.getD (q.length - 1) 0))
/-- What is left, and the quotient, when the places from k on have been gone through, of m + 1 in all. -/
def dv (p q : List Nat) (m len : Nat) : Nat → List Nat × List Nat
  | 0 => (p, List.replicate len 0)
  | j + 1 =>
    let s := dv p q m len j
    (amTo s.1 q (dq s.1 q (m - j)) (m - j) q.length, s.2.set (m - j) (dq s.1 q (m - j)))
theorem dv_len1 (p q : List Nat) (m len j : Nat) : (dv p q m len j).1.length = p.length := by
  induction j with
  | zero => rfl
  | succ j ih => simp [dv, amTo_length, ih]
theorem dv_len2 (p q : List Nat) (m len j : Nat) : (dv p q m len j).2.length = len := by
  induction j with
  | zero => simp [dv]
  | succ j ih => simp [dv, ih]
theorem dv_lt1 {p q : List Nat} {m len : Nat} (hp : AllLt p) (j : Nat) : AllLt (dv p q m len j).1 := by
  induction j with
  | zero => exact hp
  | succ j ih => exact amTo_lt ih (mul_lt (ih _)) _
theorem dq_lt {left q : List Nat} (h : AllLt left) (k : Nat) : dq left q k < 256 := mul_lt (h _)
theorem dv_lt2 {p q : List Nat} {m len : Nat} (hp : AllLt p) (j : Nat) : AllLt (dv p q m len j).2 := by
  induction j with
  | zero => exact allLt_zeros _
  | succ j ih => exact ih.set _ _ (dq_lt (dv_lt1 hp j) _)
/-- The longer quotient is the shorter one with noughts behind it. -/
theorem dv_app {p q : List Nat} {m : Nat} (e : Nat) (j : Nat) : (dv p q m (m + 1 + e) j).1 = (dv p q m (m + 1) j).1 ∧ (dv p q m (m + 1 + e) j).2 = (dv p q m (m + 1) j).2 ++ List.replicate e 0 := by
  induction j with
  | zero => exact ⟨rfl, by simp [dv, ← List.replicate_append_replicate]⟩
  | succ j ih =>
    simp only [dv]
    rw [ih.1, ih.2]
    refine ⟨rfl, ?_⟩
    rw [List.set_append_left _ _ (by rw [dv_len2]; omega)]
/-- Its highest number, when it has been gone through. -/
theorem dv_top {p q : List Nat} {m : Nat} (j : Nat) (hj : j ≤ m) : (dv p q m (m + 1) (j + 1)).2.getD m 0 = dq p q m := by
  induction j with
  | zero =>
    simp only [dv, Nat.sub_zero]
    rw [List.getD_eq_getElem?_getD, List.getElem?_set_self (by simp), Option.getD_some]
  | succ j ih =>
    rw [dv]
    simp only []
    rw [List.getD_eq_getElem?_getD, List.getElem?_set_ne (by omega), ← List.getD_eq_getElem?_getD]
    exact ih (by omega)
/-- What the division comes to: the quotient, the rest, and the word. -/
def divR (xs ys : List Int) : List Int × List Int × Bool :=
  if goodP xs = true ∧ goodP ys = true ∧ ys.length ≠ 0 then
    if xs.length < ys.length then ([], cutL xs, true)
    else
      let s := dv (nat xs) (nat ys) (xs.length - ys.length) (xs.length - ys.length + 1) (xs.length - ys.length + 1)
      (ci s.2, cutL (ci s.1), true)
  else ([], [], false)
/-- The model's quotient, its noughts taken off, is the program's. -/
theorem cut_dv {xs ys : List Int} (hx : goodP xs = true) (hy : goodP ys = true) (h0 : 0 < ys.length) (h1 : ys.length ≤ xs.length) :
    cutL (ci (dv (nat xs) (nat ys) (xs.length - ys.length) xs.length (xs.length - ys.length + 1)).2) = ci (dv (nat xs) (nat ys) (xs.length - ys.length) (xs.length - ys.length + 1) (xs.length - ys.length + 1)).2 := by
  obtain ⟨m, hm⟩ : ∃ m, m = xs.length - ys.length := ⟨_, rfl⟩
  obtain ⟨e, he⟩ : ∃ e, xs.length = m + 1 + e := ⟨ys.length - 1, by omega⟩
  rw [← hm]
  have hlen : dv (nat xs) (nat ys) m xs.length (m + 1) = dv (nat xs) (nat ys) m (m + 1 + e) (m + 1) := by rw [← he]
  rw [hlen, (dv_app e (m + 1)).2]
  refine cutL_app e (by rw [dv_len2]; omega) ?_
  rw [dv_len2, Nat.add_sub_cancel, dv_top m (Nat.le_refl _)]
  intro h
  have hx0 : 0 < xs.length := by omega
  have := mul_eq_zero _ _ (nat_ltp (goodP_mem hx) _) (inv_lt _) h
  rcases this with h | h
  · have e1 : m + (nat ys).length - 1 = xs.length - 1 := by rw [nat_length]; omega
    rw [e1] at h
    exact last_nat hx hx0 h
  · refine inv_ne (nat_ltp (goodP_mem hy) _) ?_ h
    rw [nat_length]
    exact last_nat hy h0
theorem dv_same1 {xs ys : List Int} (h0 : 0 < ys.length) (h1 : ys.length ≤ xs.length) :
    (dv (nat xs) (nat ys) (xs.length - ys.length) xs.length (xs.length - ys.length + 1)).1 = (dv (nat xs) (nat ys) (xs.length - ys.length) (xs.length - ys.length + 1) (xs.length - ys.length + 1)).1 := by
  obtain ⟨m, hm⟩ : ∃ m, m = xs.length - ys.length := ⟨_, rfl⟩
  obtain ⟨e, he⟩ : ∃ e, xs.length = m + 1 + e := ⟨ys.length - 1, by omega⟩
  rw [← hm]
  have hlen : dv (nat xs) (nat ys) m xs.length (m + 1) = dv (nat xs) (nat ys) m (m + 1 + e) (m + 1) := by rw [← he]
  rw [hlen, (dv_app e (m + 1)).1]
theorem divR_no {xs ys : List Int} (h : ¬ (goodP xs = true ∧ goodP ys = true ∧ ys.length ≠ 0)) : divR xs ys = ([], [], false) := by
  unfold divR
  rw [if_neg h]
theorem divR_short {xs ys : List Int} (hx : goodP xs = true) (hy : goodP ys = true) (h0 : ys.length ≠ 0) (h : xs.length < ys.length) : divR xs ys = ([], cutL xs, true) := by
  unfold divR
  rw [if_pos ⟨hx, hy, h0⟩, if_pos h]
theorem divR_yes {xs ys : List Int} (hx : goodP xs = true) (hy : goodP ys = true) (h0 : ys.length ≠ 0) (h : ¬ xs.length < ys.length) :
    divR xs ys = (ci (dv (nat xs) (nat ys) (xs.length - ys.length) (xs.length - ys.length + 1) (xs.length - ys.length + 1)).2, cutL (ci (dv (nat xs) (nat ys) (xs.length - ys.length) (xs.length - ys.length + 1) (xs.length - ys.length + 1)).1), true) := by
  unfold divR
  rw [if_pos ⟨hx, hy, h0⟩, if_neg h]
theorem divR_len (xs ys : List Int) : (divR xs ys).1.length ≤ 1048576 ∧ (divR xs ys).2.1.length ≤ 1048576 := by
  by_cases h : goodP xs = true ∧ goodP ys = true ∧ ys.length ≠ 0
  · have hl := goodP_len h.1
    by_cases hs : xs.length < ys.length
    · rw [divR_short h.1 h.2.1 h.2.2 hs]
      have := cutN_le xs xs.length
      have := cutL_length xs
      exact ⟨by simp, by show (cutL xs).length ≤ _; omega⟩
    · rw [divR_yes h.1 h.2.1 h.2.2 hs]
      refine ⟨by simp only [ci_length, dv_len2]; omega, ?_⟩
      show (cutL _).length ≤ _
      rw [cutL_length]
      refine Nat.le_trans (cutN_le _ _) ?_
      rw [ci_length, dv_len1, nat_length]
      omega
  · rw [divR_no h]
    exact ⟨by simp, by simp⟩
end Gf
end Go.Proofs.YtogopakmebiomaaDoor
