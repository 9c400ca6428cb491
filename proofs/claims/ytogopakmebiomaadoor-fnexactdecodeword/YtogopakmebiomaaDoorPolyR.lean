/-
  What the product of two polynomials comes to, as a plain function on lists; that the model's longer row, its noughts taken off, is the program's. Nothing of the program stands here but names. No condition.
-/
import Derived.Test.YtogopakmebiomaaDoorCut
namespace Go.Proofs.YtogopakmebiomaaDoor
namespace Gf

theorem ci_natp {xs : List Int} (h : ∀ c ∈ xs, 0 ≤ c ∧ c ≤ 255) : ci (nat xs) = xs := by
  simp only [ci, nat, List.map_map]
  conv => rhs; rw [← List.map_id xs]
  apply List.map_congr_left
  intro c hc
  have := h c hc
  simp; omega
theorem nat_ltp {xs : List Int} (h : ∀ c ∈ xs, 0 ≤ c ∧ c ≤ 255) : AllLt (nat xs) := by
  intro i
  simp only [nat, List.getD_eq_getElem?_getD, List.getElem?_map]
  cases hx : xs[i]? with
  | none => simp
  | some c =>
    have := h c (List.mem_of_getElem? hx)
    simp; omega
theorem goodP_mem {xs : List Int} (h : goodP xs = true) : ∀ c ∈ xs, 0 ≤ c ∧ c ≤ 255 := mem_bd (goodP_all h)
/-- The product so far: behind k factors of the first. -/
def mp (p q s0 : List Nat) : Nat → List Nat
  | 0 => s0
  | k + 1 => amTo (mp p q s0 k) q (p.getD k 0) k q.length
theorem mp_length (p q s0 : List Nat) (k : Nat) : (mp p q s0 k).length = s0.length := by
  induction k with
  | zero => rfl
  | succ k ih => simp [mp, amTo_length, ih]
theorem mp_lt {p q s0 : List Nat} (hs : AllLt s0) (hp : AllLt p) (k : Nat) : AllLt (mp p q s0 k) := by
  induction k with
  | zero => exact hs
  | succ k ih => exact amTo_lt ih (hp k) _

theorem amTo_app {s q : List Nat} {f a : Nat} (k : Nat) (h : a + k ≤ s.length) : amTo (s ++ [0]) q f a k = amTo s q f a k ++ [0] := by
  induction k with
  | zero => rfl
  | succ k ih =>
    have hl := amTo_length s q f a k
    rw [amTo, amTo, ih (by omega), xorAt, xorAt, List.set_append_left _ _ (by omega)]
    congr 2
    simp only [List.getD_eq_getElem?_getD]
    rw [List.getElem?_append_left (by omega)]
theorem mp_app {p q s0 : List Nat} (k : Nat) (hk : k ≤ p.length) (hs : p.length + q.length ≤ s0.length + 1) : mp p q (s0 ++ [0]) k = mp p q s0 k ++ [0] := by
  induction k with
  | zero => rfl
  | succ k ih => rw [mp, mp, ih (by omega), amTo_app _ (by rw [mp_length]; omega)]
theorem amTo_far {s q : List Nat} {f a i : Nat} (k : Nat) (h : a + k ≤ i) : (amTo s q f a k).getD i 0 = s.getD i 0 := by
  induction k with
  | zero => rfl
  | succ k ih =>
    rw [amTo, xorAt, List.getD_eq_getElem?_getD, List.getElem?_set_ne (by omega), ← List.getD_eq_getElem?_getD, ih (by omega)]
theorem mp_far {p q s0 : List Nat} {i : Nat} (k : Nat) (h : k + q.length ≤ i + 1) : (mp p q s0 k).getD i 0 = s0.getD i 0 := by
  induction k with
  | zero => rfl
  | succ k ih => rw [mp, amTo_far _ (by omega), ih (by omega)]
theorem mp_top {p q : List Nat} {n : Nat} (hp : 0 < p.length) (hq : 0 < q.length) (hn : n + 1 = p.length + q.length) :
    (mp p q (List.replicate n 0) p.length).getD (n - 1) 0 = mul (p.getD (p.length - 1) 0) (q.getD (q.length - 1) 0) := by
  obtain ⟨a, ha⟩ : ∃ a, p.length = a + 1 := ⟨p.length - 1, by omega⟩
  obtain ⟨b, hb⟩ : ∃ b, q.length = b + 1 := ⟨q.length - 1, by omega⟩
  have e1 : n - 1 = a + b := by omega
  rw [ha, hb, mp, hb, amTo, xorAt, e1]
  have hl : a + b < (amTo (mp p q (List.replicate n 0) a) q (p.getD a 0) a b).length := by rw [amTo_length, mp_length, List.length_replicate]; omega
  rw [List.getD_eq_getElem?_getD, List.getElem?_set_self hl, Option.getD_some, amTo_far b (Nat.le_refl _), mp_far a (by omega)]
  have : (List.replicate n 0).getD (a + b) 0 = 0 := by
    simp only [List.getD_eq_getElem?_getD, List.getElem?_replicate]
    split <;> simp
  rw [this, Nat.zero_xor]
  simp
theorem cutN_zero {xs : List Int} : ∀ n, (∀ i, i < n → xs.getD i 0 = 0) → cutN xs n = 0
  | 0, _ => rfl
  | n + 1, h => by rw [cutN, if_pos (h n (by omega))]; exact cutN_zero n (fun i hi => h i (by omega))
theorem cutL_zeros (n : Nat) : cutL (ci (List.replicate n 0)) = [] := by
  unfold cutL
  rw [cutN_zero, List.take_zero]
  intro i _
  rw [ci_getD]
  simp only [List.getD_eq_getElem?_getD, List.getElem?_replicate]
  split <;> simp
theorem cutL_one {l : List Nat} (h0 : 0 < l.length) (h : l.getD (l.length - 1) 0 ≠ 0) : cutL (ci l) = ci l := by
  obtain ⟨n, hn⟩ : ∃ n, l.length = n + 1 := ⟨l.length - 1, by omega⟩
  have e : cutN (ci l) (ci l).length = (ci l).length := by
    rw [ci_length, hn, cutN, if_neg]
    rw [ci_getD]
    rw [hn, Nat.add_sub_cancel] at h
    omega
  unfold cutL
  rw [e, List.take_length]
theorem cutL_app {l : List Nat} (m : Nat) (h0 : 0 < l.length) (h : l.getD (l.length - 1) 0 ≠ 0) : cutL (ci (l ++ List.replicate m 0)) = ci l := by
  have hstep : ∀ j, j ≤ m → cutN (ci (l ++ List.replicate m 0)) (l.length + j) = l.length := by
    intro j
    induction j with
    | zero =>
      intro _
      obtain ⟨n, hn⟩ : ∃ n, l.length = n + 1 := ⟨l.length - 1, by omega⟩
      rw [Nat.add_zero, hn, cutN, if_neg]
      rw [ci_getD]
      have : (l ++ List.replicate m 0).getD n 0 = l.getD n 0 := by
        simp only [List.getD_eq_getElem?_getD]
        rw [List.getElem?_append_left (by omega)]
      rw [this]
      rw [hn, Nat.add_sub_cancel] at h
      omega
    | succ j ih =>
      intro hj
      rw [← Nat.add_assoc, cutN, if_pos]
      · exact ih (by omega)
      · rw [ci_getD]
        simp only [List.getD_eq_getElem?_getD]
        rw [List.getElem?_append_right (by omega), List.getElem?_replicate]
        split <;> simp
  unfold cutL
  have e : (ci (l ++ List.replicate m 0)).length = l.length + m := by rw [ci_length]; simp
  rw [e, hstep m (Nat.le_refl _)]
  simp [ci]

/-- What the product comes to. -/
def mulR (xs ys : List Int) : List Int × Bool :=
  if goodP xs = true ∧ goodP ys = true then
    if xs.length = 0 ∨ ys.length = 0 then ([], true)
    else if 40 < xs.length + ys.length - 1 then ([], false)
    else (ci (mp (nat xs) (nat ys) (List.replicate (xs.length + ys.length - 1) 0) xs.length), true)
  else ([], false)
theorem last_nat {xs : List Int} (h : goodP xs = true) (h0 : 0 < xs.length) : (nat xs).getD (xs.length - 1) 0 ≠ 0 := by
  have h1 := goodP_last h h0
  have h2 := goodP_all h (xs.length - 1) (by omega)
  have e : (nat xs).getD (xs.length - 1) 0 = (xs.getD (xs.length - 1) 0).toNat := by
    simp only [nat, List.getD_eq_getElem?_getD, List.getElem?_map]
    cases xs[xs.length - 1]? <;> simp
  rw [e]
  omega
/-- The model's row, its noughts taken off, is the program's. -/
theorem cut_mp {xs ys : List Int} (hx : goodP xs = true) (hy : goodP ys = true) (h0 : 0 < xs.length) (h1 : 0 < ys.length) :
    cutL (ci (mp (nat xs) (nat ys) (List.replicate (xs.length + ys.length) 0) xs.length)) = ci (mp (nat xs) (nat ys) (List.replicate (xs.length + ys.length - 1) 0) xs.length) := by
  obtain ⟨n, hn⟩ : ∃ n, xs.length + ys.length = n + 1 := ⟨xs.length + ys.length - 1, by omega⟩
  have hn1 : n + 1 = (nat xs).length + (nat ys).length := by rw [nat_length, nat_length]; omega
  have e : List.replicate (n + 1) 0 = List.replicate n 0 ++ [0] := List.replicate_succ'
  have hlen : xs.length ≤ (nat xs).length := by rw [nat_length]; exact Nat.le_refl _
  rw [hn, Nat.add_sub_cancel, e, mp_app xs.length hlen (by rw [List.length_replicate]; omega)]
  have hl : (mp (nat xs) (nat ys) (List.replicate n 0) xs.length).length = n := by rw [mp_length, List.length_replicate]
  have htop := mp_top (p := nat xs) (q := nat ys) (n := n) (by rw [nat_length]; exact h0) (by rw [nat_length]; exact h1) hn1
  rw [nat_length, nat_length] at htop
  refine cutL_app 1 (by rw [hl]; omega) ?_
  rw [hl, htop]
  intro h
  have := mul_eq_zero _ _ (nat_ltp (goodP_mem hx) _) (nat_ltp (goodP_mem hy) _) h
  rcases this with h | h
  · exact last_nat hx h0 h
  · exact last_nat hy h1 h
theorem mp_nil_q {p s0 : List Nat} (k : Nat) : mp p [] s0 k = s0 := by
  induction k with
  | zero => rfl
  | succ k ih => rw [mp, ih]; rfl
end Gf
end Go.Proofs.YtogopakmebiomaaDoor
