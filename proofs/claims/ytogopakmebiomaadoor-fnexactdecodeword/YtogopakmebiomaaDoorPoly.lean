/-
  Polynomials over the field: which lists are taken, and their values, as the program and its model reckon them, call by call. The program's table of rests must hold its seven numbers where the program's own functions are called.
-/
import Derived.Test.YtogopakmebiomaaDoorPub
import Derived.Test.YtogopakmebiomaaDoorAdd
namespace Go.Proofs.YtogopakmebiomaaDoor
open Go.RowKit
namespace Gf

def goodP (xs : List Int) : Bool := decide (xs.length ≤ 40) && xs.all elOk && (xs.isEmpty || xs.getD (xs.length - 1) 0 != 0)
theorem goodP_all {xs : List Int} (h : goodP xs = true) : ∀ i, i < xs.length → 0 ≤ xs.getD i 0 ∧ xs.getD i 0 ≤ 255 := by
  simp only [goodP, Bool.and_eq_true] at h
  exact fun i hi => elOk_iff.1 (all_of_getD.1 h.1.2 i hi)
theorem goodP_len {xs : List Int} (h : goodP xs = true) : xs.length ≤ 40 := by
  simp only [goodP, Bool.and_eq_true, decide_eq_true_eq] at h
  exact h.1.1
theorem goodP_last {xs : List Int} (h : goodP xs = true) (h0 : 0 < xs.length) : xs.getD (xs.length - 1) 0 ≠ 0 := by
  simp only [goodP, Bool.and_eq_true, decide_eq_true_eq] at h
  have h2 := h.2
  have : xs.isEmpty = false := by cases xs <;> simp_all
  rw [this, Bool.false_or, bne_iff_ne] at h2
  exact h2
theorem goodP_long {xs : List Int} (h : 40 < xs.length) : goodP xs = false := by
  have : decide (xs.length ≤ 40) = false := by simp; omega
  simp [goodP, this]
theorem goodP_bad {xs : List Int} (h : xs.all elOk = false) : goodP xs = false := by simp [goodP, h]
theorem goodP_nil : goodP [] = true := by decide
theorem goodP_fin {xs : List Int} (h : xs.length ≤ 40) (ha : xs.all elOk = true) (h0 : 0 < xs.length) : goodP xs = (xs.getD (xs.length - 1) 0 != 0) := by
  have h2 : xs.isEmpty = false := by cases xs <;> simp_all
  have h3 : decide (xs.length ≤ 40) = true := by simp; exact h
  simp only [goodP, h3, ha, h2, Bool.true_and, Bool.false_or]

set_option maxRecDepth 100000 in
set_option maxHeartbeats 400000 in
theorem isPoly_calls (v : Value) (xs : List Int) (w : World) (h : Rd w v xs) :
    Calls Tryd.prog 124 #[v] w fun e w' => e = .returned (.bool (goodP xs)) ∧ w = w' := by
  have R := hide h
  obtain ⟨a, cap, rfl, h1, h2, h3⟩ := h
  have hm : xs.length ≤ maxLen := by omega
  unfold maxLen at hm
  have H := hide h3
  clear h3 h2
  by_cases hlong : xs.length ≤ 40
  case neg =>
    rw [goodP_long (by omega)]
    have hl : (40 : Int) < (xs.length : Int) := by omega
    go_enter Tryd.func124, Tryd.ntmps124
    go_wp2
    go_ret
    exact ⟨rfl, rfl⟩
  have hl : ¬ (40 : Int) < (xs.length : Int) := by omega
  cases hall : xs.all elOk with
  | false =>
    rw [goodP_bad hall]
    have A := hide hall
    clear hall
    go_enter Tryd.func124, Tryd.ntmps124
    go_wp2_with fail
    refine (areElements_calls _ xs _ R.out).mono ?_
    rw [A.out]
    rintro e w' ⟨rfl, rfl⟩
    go_wp2
    go_ret
    exact ⟨rfl, rfl⟩
  | true =>
    have A := hide hall
    clear hall
    by_cases h0 : xs.length = 0
    · have e : xs = [] := List.eq_nil_of_length_eq_zero h0
      have eg : goodP xs = true := by rw [e]; exact goodP_nil
      rw [eg]
      have h0' : ((xs.length : Int) == 0) = true := by simp [h0]
      clear e eg h0
      go_enter Tryd.func124, Tryd.ntmps124
      go_wp2_with fail
      refine (areElements_calls _ xs _ R.out).mono ?_
      rw [A.out]
      rintro e w' ⟨rfl, rfl⟩
      go_wp2
      go_ret
      exact ⟨rfl, rfl⟩
    · rcases H.out with h3 | ⟨b, off, rfl, hbs, hc⟩
      · subst h3; simp at h0
      have hc1 := hc (xs.length - 1) (by omega)
      clear hc
      obtain ⟨z, hz⟩ : ∃ z, z = xs.getD (xs.length - 1) 0 := ⟨_, rfl⟩
      rw [← hz] at hc1
      have Z := hide hz
      clear hz
      have h0' : ((xs.length : Int) == 0) = false := by simp; intro e; simp [e] at h0
      have e1 : ((xs.length : Int) - 1).toNat = xs.length - 1 := by omega
      have e2 : (0 : Int) ≤ (xs.length : Int) - 1 := by omega
      have e3 : (xs.length : Int) - 1 < xs.length := by omega
      obtain ⟨res, hres⟩ : ∃ r, r = goodP xs := ⟨_, rfl⟩
      rw [← hres]
      have RS : Hid (res = (z != 0)) := by
        show res = (z != 0)
        rw [hres, goodP_fin hlong A.out (by omega), ← Z.out]
      clear hres
      go_enter Tryd.func124, Tryd.ntmps124
      go_wp2_with fail
      refine (areElements_calls _ xs _ R.out).mono ?_
      rw [A.out]
      rintro e w' ⟨rfl, rfl⟩
      go_wp2
      go_ret
      exact ⟨ret_bool RS.out.symm, rfl⟩

set_option maxRecDepth 100000 in
set_option maxHeartbeats 400000 in
theorem l1Poly_calls (v : Value) (xs : List Int) (w : World) (h : Rd w v xs) :
    Calls Tryd.prog 126 #[v] w fun e w' => e = .returned (.bool (goodP xs)) ∧ w = w' := by
  have R := hide h
  obtain ⟨a, cap, rfl, h1, h2, h3⟩ := h
  have H := hide h3
  clear h3 h2
  by_cases hlong : xs.length ≤ 40
  case neg =>
    rw [goodP_long (by omega)]
    have hl : ¬ (xs.length : Int) ≤ 40 := by omega
    go_enter Tryd.func126, Tryd.ntmps126
    go_wp2
    go_ret
    exact ⟨rfl, rfl⟩
  have hl : (xs.length : Int) ≤ 40 := by omega
  cases hal : xs.all elOk with
  | false =>
    rw [goodP_bad hal]
    go_enter Tryd.func126, Tryd.ntmps126
    go_wp2_with (go_at_call 69; refine (l1All_calls _ xs _ R.out).mono ?_; rw [hal]; rintro e w' ⟨rfl, rfl⟩)
    go_ret
    exact ⟨rfl, rfl⟩
  | true =>
    by_cases h0 : xs.length = 0
    · have e : xs = [] := List.eq_nil_of_length_eq_zero h0
      subst e
      go_enter Tryd.func126, Tryd.ntmps126
      go_wp2_with (go_at_call 69; refine (l1All_calls _ [] _ R.out).mono ?_; rintro e w' ⟨rfl, rfl⟩)
      go_ret
      exact ⟨ret_bool goodP_nil.symm, rfl⟩
    · rcases H.out with h3 | ⟨b, off, rfl, hbs, hc⟩
      · subst h3; simp at h0
      have hc1 := hc (xs.length - 1) (by omega)
      clear hc
      obtain ⟨z, hz⟩ : ∃ z, z = xs.getD (xs.length - 1) 0 := ⟨_, rfl⟩
      rw [← hz] at hc1
      have Z := hide hz
      have A := hide hal
      clear hz hal
      have h0' : ((xs.length : Int) == 0) = false := by simp; intro e; simp [e] at h0
      have e1 : ((xs.length : Int) - 1).toNat = xs.length - 1 := by omega
      have e2 : (0 : Int) ≤ (xs.length : Int) - 1 := by omega
      have e3 : (xs.length : Int) - 1 < xs.length := by omega
      go_enter Tryd.func126, Tryd.ntmps126
      go_wp2_with (go_at_call 69; refine (l1All_calls _ xs _ R.out).mono ?_; rw [A.out]; rintro e w' ⟨rfl, rfl⟩)
      go_ret
      exact ⟨ret_bool (by rw [goodP_fin hlong A.out (by omega), ← Z.out]), rfl⟩

/-- The value at x, from the highest down. -/
def ev (x : Nat) : List Int → Nat
  | [] => 0
  | c :: cs => mul (ev x cs) x ^^^ c.toNat
theorem ev_lt {x : Nat} : ∀ {xs : List Int}, (∀ c ∈ xs, 0 ≤ c ∧ c ≤ 255) → ev x xs < 256
  | [], _ => by simp [ev]
  | c :: cs, h => by
    have h1 := ev_lt (x := x) (xs := cs) (fun d hd => h d (List.mem_cons_of_mem _ hd))
    have h2 := h c (List.mem_cons_self ..)
    exact Nat.xor_lt_two_pow (n := 8) (mul_lt h1) (by omega)
theorem mem_bd {xs : List Int} (h : ∀ i, i < xs.length → 0 ≤ xs.getD i 0 ∧ xs.getD i 0 ≤ 255) : ∀ c ∈ xs, 0 ≤ c ∧ c ≤ 255 := by
  intro c hc
  obtain ⟨i, hi, rfl⟩ := List.mem_iff_getElem.1 hc
  have := h i hi
  rwa [List.getD_eq_getElem?_getD, List.getElem?_eq_getElem hi, Option.getD_some] at this
theorem ev_drop_lt {x j : Nat} {xs : List Int} (h : ∀ i, i < xs.length → 0 ≤ xs.getD i 0 ∧ xs.getD i 0 ≤ 255) : ev x (xs.drop j) < 256 :=
  ev_lt fun c hc => mem_bd h c (List.mem_of_mem_drop hc)
theorem ev_drop {x j : Nat} {xs : List Int} (hj : j < xs.length) : ev x (xs.drop j) = mul (ev x (xs.drop (j + 1))) x ^^^ (xs.getD j 0).toNat := by
  rw [List.drop_eq_getElem_cons hj, ev, List.getD_eq_getElem?_getD, List.getElem?_eq_getElem hj, Option.getD_some]
def evTo (x : Nat) (xs : List Int) (j : Nat) : Nat := ev x (xs.drop j)

set_option maxRecDepth 100000 in
set_option maxHeartbeats 400000 in
theorem l1Eval_calls (v : Value) (xs : List Int) (x : Int) (w : World) (h : Rd w v xs) (hx0 : 0 ≤ x) (hx : x ≤ 255) (hg : ∀ i, i < xs.length → 0 ≤ xs.getD i 0 ∧ xs.getD i 0 ≤ 255) :
    Calls Tryd.prog 130 #[v, .int .i64 x] w fun e w' => e = .returned (.int .i64 (ev x.toNat xs : Nat)) ∧ Below w.heap.size w w' := by
  obtain ⟨X, rfl⟩ := Int.eq_ofNat_of_zero_le hx0
  rw [Int.toNat_natCast]
  obtain ⟨a, cap, rfl, h1, h2, h3⟩ := h
  have hm : xs.length ≤ maxLen := by omega
  unfold maxLen at hm
  have H := hide h3
  have G := hide hg
  clear h3 h2 hg
  go_enter Tryd.func130, Tryd.ntmps130
  go_wp2
  go_loopw [5, 6] (fun vv vk wr => ∃ j : Nat, j ≤ xs.length ∧ vk = .int .i64 ((j : Int) - 1) ∧ vv = .int .i64 (evTo X xs j : Nat) ∧ Below w.heap.size w wr) (fun _ vk _ => (intOf vk + 1).toNat)
  case atStart => exact ⟨xs.length, Nat.le_refl _, rfl, by simp [evTo, ev], Below.refl _ _⟩
  case round =>
    obtain ⟨j, hj, rfl, rfl, hb⟩ := hrel
    by_cases hlt : 0 < j
    · obtain ⟨k, rfl⟩ : ∃ k, j = k + 1 := ⟨j - 1, by omega⟩
      rcases H.out with h3 | ⟨b, off, rfl, hbs, hc⟩
      · subst h3; simp at hj
      have hk : k < xs.length := by omega
      have hc1 : wr.cell? ⟨b, off + k, none⟩ = some (.int .i64 (xs.getD k 0)) := (hb.cell (by exact hbs)).trans (hc k hk)
      clear hc
      have hgk := G.out k hk
      obtain ⟨z, hz⟩ : ∃ z, z = xs.getD k 0 := ⟨_, rfl⟩
      rw [← hz] at hc1 hgk
      have Z := hide hz
      clear hz
      have hlt1 : evTo X xs (k + 1) < 256 := ev_drop_lt G.out
      obtain ⟨y, hy⟩ : ∃ y, y = evTo X xs (k + 1) := ⟨_, rfl⟩
      rw [← hy] at hlt1 ⊢
      have Y := hide hy
      clear hy
      have e0 : (((k + 1 : Nat) : Int) - 1) = (k : Int) := by omega
      rw [e0]
      go_wp2
      go_quiet ((go_at_call 128; exact quiet_same (l1Mul_calls _ _ _ (by omega) (by omega) (by omega) (by omega))))
      go_wp2
      go_roundw
      case rel =>
        refine ⟨k, by omega, by go_num, int_eq ?_, below_drewN hb _⟩
        rw [xor_val (mul_lt (by omega)) hgk.1 hgk.2]
        show _ = ((ev X (xs.drop k) : Nat) : Int)
        rw [ev_drop hk, ← Z.out]
        have := Y.out
        unfold evTo at this
        rw [← this]
      case measure => simp [intOf]
    · obtain rfl : j = 0 := by omega
      go_wp2
      go_ret
      exact ⟨rfl, hb⟩
end Gf
end Go.Proofs.YtogopakmebiomaaDoor
