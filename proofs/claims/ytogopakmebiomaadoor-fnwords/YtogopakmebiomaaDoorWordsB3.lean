/-
  Noughts taken off a list's end: the program's function and its model's, call by call: each answers new memory that holds the list without them. Each contract says what it asks. What the product of two polynomials comes to, as a plain function on lists; that the model's longer row, its noughts taken off, is the program's. Nothing of the program stands here but names. No condition. What the division of two polynomials comes to, as a plain function on lists; that the model's longer quotient, its noughts taken off, is the program's. No condition. Values of polynomials: of sums, products and divisions; that what comes out are polynomials, and that a rest is shorter than what divides. Plain mathematics. No condition. Sums of multiples of powers: where the points are unlike, and as many such sums are nought as there are points, each multiple is nought (Vandermonde); the value of a polynomial as such a sum. Plain mathematics. No condition. The shortest rule of syndromes (Berlekamp, Massey), step by step, as plain functions on lists: the program's way, in a row of fixed length, and the model's; that both tell the same. Plain mathematics. No condition.
-/
import Derived.Test.YtogopakmebiomaaDoorWordsB2
namespace Go.Proofs.YtogopakmebiomaaDoor
open Go.RowKit

def cutN (xs : List Int) : Nat → Nat
  | 0 => 0
  | n + 1 => if xs.getD n 0 = 0 then cutN xs n else n + 1
theorem cutN_le (xs : List Int) (n : Nat) : cutN xs n ≤ n := by
  induction n with
  | zero => exact Nat.le_refl _
  | succ n ih =>
    simp only [cutN]
    split
    · omega
    · exact Nat.le_refl _
def cutL (xs : List Int) : List Int := xs.take (cutN xs xs.length)
theorem cutL_length (xs : List Int) : (cutL xs).length = cutN xs xs.length := by
  have := cutN_le xs xs.length
  simp [cutL]; omega
set_option maxRecDepth 100000 in
set_option maxHeartbeats 800000 in
theorem without_calls (v : Value) (xs : List Int) (w : World) (h : Rd w v xs) (hlen : xs.length ≤ 1048576) :
    Calls Tryd.prog 75 #[v] w fun e w' => ∃ v', e = .returned v' ∧ Own w' w.heap.size v' (cutL xs) ∧ Below w.heap.size w w' := by
  have R := hide h
  obtain ⟨a, cap, rfl, h1, h2, h3⟩ := h
  have H := hide h3
  clear h3
  go_enter Tryd.func75, Tryd.ntmps75
  go_wp2
  go_loop [3] (fun vn => ∃ n : Nat, n ≤ xs.length ∧ vn = .int .i64 n ∧ cutN xs n = cutN xs xs.length) (fun vn => (intOf vn).toNat)
  case atStart => exact ⟨xs.length, Nat.le_refl _, rfl, rfl⟩
  case round =>
    obtain ⟨n, hn, rfl, hcut⟩ := hrel
    have C := hide hcut
    clear hcut
    by_cases hmore : ∃ m, n = m + 1 ∧ xs.getD m 0 = 0
    · obtain ⟨m, rfl, hz⟩ := hmore
      rcases H.out with h3 | ⟨b, off, rfl, hbs, hc⟩
      · subst h3; simp at hn
      have hc1 := hc m (by omega)
      rw [hz] at hc1
      clear hc
      have Z := hide hz
      clear hz
      have e0 : (((m + 1 : Nat) : Int) - 1) = (m : Int) := by omega
      go_wp2
      go_round
      case rel =>
        refine ⟨m, by omega, by go_num, ?_⟩
        have := C.out
        rw [cutN, if_pos Z.out] at this
        exact this
      case measure => simp [intOf]
    · have hfin : cutN xs n = n := by
        cases n with
        | zero => rfl
        | succ m => rw [cutN, if_neg (fun e => hmore ⟨m, rfl, e⟩)]
      have hN : Hid (n = cutN xs xs.length) := hfin.symm.trans C.out
      have stop : (n = 0 ∧ True) ∨ ∃ m, n = m + 1 ∧ xs.getD m 0 ≠ 0 := by
        cases n with
        | zero => exact .inl ⟨rfl, trivial⟩
        | succ m => exact .inr ⟨m, rfl, fun e => hmore ⟨m, rfl, e⟩⟩
      clear hfin hmore C
      have fin : ∀ w0 w1 : World, Own w1 w.heap.size (.slice (some ⟨w.heap.size, 0, none⟩) n n) (xs.take n) → Own w1 w.heap.size (.slice (some ⟨w.heap.size, 0, none⟩) n n) (cutL xs) := by
        intro _ w1 ho
        unfold cutL
        rw [← hN.out]
        exact ho
      have FIN := hide fin
      clear fin
      rcases stop with ⟨h0, _⟩ | ⟨m, h0, hne⟩
      · subst h0
        go_wp2_with (first
          | (at_make; refine wpList_make_ints rfl _ _ rfl w.heap.size _ _ 0 rfl rfl rfl rfl (by omega) (Nat.le_refl _) ?_; intro w0 hown0 hgrow0)
          | (refine wpList_copy_fresh rfl _ _ rfl w.heap.size w.heap.size 0 _ rfl hown0 _ rfl xs (by exact R.out.below ((Below.refl _ _).grown hgrow0 (Nat.le_refl _) (fun k h => by cases h))) hn (Nat.le_refl _) (by unfold maxLen; omega) w.heap.size w ((Below.refl _ _).grown hgrow0 (Nat.le_refl _) (fun k h => by cases h)) (Nat.le_refl _) ?_; intro w1 hown1 hb1 hg1))
        go_ret
        exact ⟨_, rfl, FIN.out w0 w1 hown1, hb1⟩
      · subst h0
        rcases H.out with h3 | ⟨b, off, rfl, hbs, hc⟩
        · subst h3; simp at hn
        have hc1 := hc m (by omega)
        obtain ⟨z, hz⟩ : ∃ z, z = xs.getD m 0 := ⟨_, rfl⟩
        rw [← hz] at hc1 hne
        clear hz hc
        have hz' : (z == 0) = false := by simp; exact hne
        have e0 : (((m + 1 : Nat) : Int) - 1) = (m : Int) := by omega
        go_wp2_with (first
          | (at_make; refine wpList_make_ints rfl _ _ rfl w.heap.size _ _ (m + 1) rfl rfl (by omega) (by omega) (by omega) (Nat.le_refl _) ?_; intro w0 hown0 hgrow0)
          | (refine wpList_copy_fresh rfl _ _ rfl w.heap.size w.heap.size (m + 1) _ rfl hown0 _ rfl xs (by exact R.out.below ((Below.refl _ _).grown hgrow0 (Nat.le_refl _) (fun k h => by cases h))) hn (Nat.le_refl _) (by unfold maxLen; omega) w.heap.size w ((Below.refl _ _).grown hgrow0 (Nat.le_refl _) (fun k h => by cases h)) (Nat.le_refl _) ?_; intro w1 hown1 hb1 hg1))
        go_ret
        exact ⟨_, rfl, FIN.out w0 w1 hown1, hb1⟩

theorem rd_takep {w : World} {a : Option Addr} {cap n : Nat} {xs : List Int} (h : Rd w (.slice a xs.length cap) xs) (hn : n ≤ xs.length) : Rd w (.slice a n cap) (xs.take n) := by
  obtain ⟨a', cap', hv, h1, h2, h3⟩ := h
  simp only [Value.slice.injEq, true_and] at hv
  obtain ⟨rfl, rfl⟩ := hv
  have hl : (xs.take n).length = n := by rw [List.length_take]; omega
  refine ⟨a, cap, by rw [hl], by omega, h2, ?_⟩
  by_cases h0 : n = 0
  · left; subst h0; simp
  · rcases h3 with h3 | ⟨b, off, rfl, hb, hc⟩
    · subst h3; simp at hn; exact absurd hn h0
    · refine .inr ⟨b, off, rfl, hb, fun i hi => ?_⟩
      rw [hl] at hi
      rw [hc i (by omega), List.getD_eq_getElem?_getD, List.getD_eq_getElem?_getD, List.getElem?_take, if_pos hi]

set_option maxRecDepth 100000 in
set_option maxHeartbeats 800000 in
theorem l1Cut_calls (v : Value) (xs : List Int) (w : World) (h : Rd w v xs) (hlen : xs.length ≤ 1048576) :
    Calls Tryd.prog 71 #[v] w fun e w' => ∃ v', e = .returned v' ∧ Own w' w.heap.size v' (cutL xs) ∧ Below w.heap.size w w' := by
  have R := hide h
  obtain ⟨a, cap, rfl, h1, h2, h3⟩ := h
  have hcm := h2.1
  unfold maxLen at hcm
  have H := hide h3
  clear h3 h2
  go_enter Tryd.func71, Tryd.ntmps71
  go_wp2
  go_loop [0] (fun vp => ∃ n : Nat, n ≤ xs.length ∧ vp = .slice a n cap ∧ cutN xs n = cutN xs xs.length) (fun vp => Gf.lenOf vp)
  case atStart => exact ⟨xs.length, Nat.le_refl _, rfl, rfl⟩
  case round =>
    obtain ⟨n, hn, rfl, hcut⟩ := hrel
    have C := hide hcut
    clear hcut
    by_cases hmore : ∃ m, n = m + 1 ∧ xs.getD m 0 = 0
    · obtain ⟨m, rfl, hz⟩ := hmore
      rcases H.out with h3 | ⟨b, off, rfl, hbs, hc⟩
      · subst h3; simp at hn
      have hc1 := hc m (by omega)
      rw [hz] at hc1
      clear hc
      have Z := hide hz
      clear hz
      have e0 : (((m + 1 : Nat) : Int) - 1) = (m : Int) := by omega
      have e1 : (m : Int) ≤ (cap : Int) := by omega
      go_wp2
      go_round
      case rel =>
        refine ⟨m, by omega, ?_, ?_⟩
        · first | rfl | simp
        · have := C.out
          rw [cutN, if_pos Z.out] at this
          exact this
      case measure => simp [Gf.lenOf]
    · have hfin : cutN xs n = n := by
        cases n with
        | zero => rfl
        | succ m => rw [cutN, if_neg (fun e => hmore ⟨m, rfl, e⟩)]
      have hN : Hid (n = cutN xs xs.length) := hfin.symm.trans C.out
      have stop : (n = 0 ∧ True) ∨ ∃ m, n = m + 1 ∧ xs.getD m 0 ≠ 0 := by
        cases n with
        | zero => exact .inl ⟨rfl, trivial⟩
        | succ m => exact .inr ⟨m, rfl, fun e => hmore ⟨m, rfl, e⟩⟩
      clear hfin hmore C
      have RR : Hid (Rd (w.alloc (.cells #[] 3)) (.slice a n cap) (cutL xs)) := by
        have := rd_takep R.out hn
        unfold cutL
        rw [← hN.out]
        exact this.below ((Below.refl _ _).alloc (Nat.le_refl _) _)
      have OO : Hid (Own (w.alloc (.cells #[] 3)) w.heap.size (.slice (some ⟨w.heap.size, 0, none⟩) 0 0) []) :=
        World.ownsRow_lit w #[] 0 (Nat.le_refl _) (Nat.zero_le _) (by rfl)
      have LL : Hid (0 + (cutL xs).length ≤ 1073741824) := by
        have := cutL_length xs
        have := cutN_le xs xs.length
        show 0 + (cutL xs).length ≤ 1073741824
        omega
      rcases stop with ⟨h0, _⟩ | ⟨m, h0, hne⟩
      · subst h0
        go_wp2_with (at_builtin; refine wpList_append_rd rfl _ _ rfl w.heap.size _ 0 [] (cutL xs) rfl OO.out _ rfl RR.out LL.out (by simp) ?_; intro v' w1 hown1 hg1)
        go_ret
        refine ⟨_, rfl, hown1, ((Below.refl _ _).alloc (Nat.le_refl _) _).grown hg1 (by simp) ?_⟩
        exact fun k hk => (OO.out.lt k hk).1
      · subst h0
        rcases H.out with h3 | ⟨b, off, rfl, hbs, hc⟩
        · subst h3; simp at hn
        have hc1 := hc m (by omega)
        obtain ⟨z, hz⟩ : ∃ z, z = xs.getD m 0 := ⟨_, rfl⟩
        rw [← hz] at hc1 hne
        clear hz hc
        have hz' : (z == 0) = false := by simp; exact hne
        have e0 : (((m + 1 : Nat) : Int) - 1) = (m : Int) := by omega
        go_wp2_with (at_builtin; refine wpList_append_rd rfl _ _ rfl w.heap.size _ 0 [] (cutL xs) rfl OO.out _ rfl RR.out LL.out (by simp) ?_; intro v' w1 hown1 hg1)
        go_ret
        refine ⟨_, rfl, hown1, ((Below.refl _ _).alloc (Nat.le_refl _) _).grown hg1 (by simp) ?_⟩
        exact fun k hk => (OO.out.lt k hk).1
end Go.Proofs.YtogopakmebiomaaDoor

namespace Go.Proofs.YtogopakmebiomaaDoor
namespace Gf

theorem ci_natp {xs : List Int} (h : ∀ c ∈ xs, 0 ≤ c ∧ c ≤ 255) : ci (nat xs) = xs := by
  simp only [ci, nat, List.map_map]
  conv => rhs; rw [← List.map_id xs]
  apply List.map_congr_left
  intro c hc
  have := h c hc
  simp; omega
theorem nat_ltp {xs : List Int} (h : ∀ c ∈ xs, 0 ≤ c ∧ c ≤ 255) : AllLt (nat xs) := by
  intro i
  simp only [nat, List.getD_eq_getElem?_getD, List.getElem?_map]
  cases hx : xs[i]? with
  | none => simp
  | some c =>
    have := h c (List.mem_of_getElem? hx)
    simp; omega
theorem goodP_mem {xs : List Int} (h : goodP xs = true) : ∀ c ∈ xs, 0 ≤ c ∧ c ≤ 255 := mem_bd (goodP_all h)
/-- The product so far: behind k factors of the first. -/
def mp (p q s0 : List Nat) : Nat → List Nat
  | 0 => s0
  | k + 1 => amTo (mp p q s0 k) q (p.getD k 0) k q.length
theorem mp_length (p q s0 : List Nat) (k : Nat) : (mp p q s0 k).length = s0.length := by
  induction k with
  | zero => rfl
  | succ k ih => simp [mp, amTo_length, ih]
theorem mp_lt {p q s0 : List Nat} (hs : AllLt s0) (hp : AllLt p) (k : Nat) : AllLt (mp p q s0 k) := by
  induction k with
  | zero => exact hs
  | succ k ih => exact amTo_lt ih (hp k) _

theorem amTo_app {s q : List Nat} {f a : Nat} (k : Nat) (h : a + k ≤ s.length) : amTo (s ++ [0]) q f a k = amTo s q f a k ++ [0] := by
  induction k with
  | zero => rfl
  | succ k ih =>
    have hl := amTo_length s q f a k
    rw [amTo, amTo, ih (by omega), xorAt, xorAt, List.set_append_left _ _ (by omega)]
    congr 2
    simp only [List.getD_eq_getElem?_getD]
    rw [List.getElem?_append_left (by omega)]
theorem mp_app {p q s0 : List Nat} (k : Nat) (hk : k ≤ p.length) (hs : p.length + q.length ≤ s0.length + 1) : mp p q (s0 ++ [0]) k = mp p q s0 k ++ [0] := by
  induction k with
  | zero => rfl
  | succ k ih => rw [mp, mp, ih (by omega), amTo_app _ (by rw [mp_length]; omega)]
theorem amTo_far {s q : List Nat} {f a i : Nat} (k : Nat) (h : a + k ≤ i) : (amTo s q f a k).getD i 0 = s.getD i 0 := by
  induction k with
  | zero => rfl
  | succ k ih =>
    rw [amTo, xorAt, List.getD_eq_getElem?_getD, List.getElem?_set_ne (by omega), ← List.getD_eq_getElem?_getD, ih (by omega)]
theorem mp_far {p q s0 : List Nat} {i : Nat} (k : Nat) (h : k + q.length ≤ i + 1) : (mp p q s0 k).getD i 0 = s0.getD i 0 := by
  induction k with
  | zero => rfl
  | succ k ih => rw [mp, amTo_far _ (by omega), ih (by omega)]
theorem mp_top {p q : List Nat} {n : Nat} (hp : 0 < p.length) (hq : 0 < q.length) (hn : n + 1 = p.length + q.length) :
    (mp p q (List.replicate n 0) p.length).getD (n - 1) 0 = mul (p.getD (p.length - 1) 0) (q.getD (q.length - 1) 0) := by
  obtain ⟨a, ha⟩ : ∃ a, p.length = a + 1 := ⟨p.length - 1, by omega⟩
  obtain ⟨b, hb⟩ : ∃ b, q.length = b + 1 := ⟨q.length - 1, by omega⟩
  have e1 : n - 1 = a + b := by omega
  rw [ha, hb, mp, hb, amTo, xorAt, e1]
  have hl : a + b < (amTo (mp p q (List.replicate n 0) a) q (p.getD a 0) a b).length := by rw [amTo_length, mp_length, List.length_replicate]; omega
  rw [List.getD_eq_getElem?_getD, List.getElem?_set_self hl, Option.getD_some, amTo_far b (Nat.le_refl _), mp_far a (by omega)]
  have : (List.replicate n 0).getD (a + b) 0 = 0 := by
    simp only [List.getD_eq_getElem?_getD, List.getElem?_replicate]
    split <;> simp
  rw [this, Nat.zero_xor]
  simp
theorem cutN_zero {xs : List Int} : ∀ n, (∀ i, i < n → xs.getD i 0 = 0) → cutN xs n = 0
  | 0, _ => rfl
  | n + 1, h => by rw [cutN, if_pos (h n (by omega))]; exact cutN_zero n (fun i hi => h i (by omega))
theorem cutL_zeros (n : Nat) : cutL (ci (List.replicate n 0)) = [] := by
  unfold cutL
  rw [cutN_zero, List.take_zero]
  intro i _
  rw [ci_getD]
  simp only [List.getD_eq_getElem?_getD, List.getElem?_replicate]
  split <;> simp
theorem cutL_one {l : List Nat} (h0 : 0 < l.length) (h : l.getD (l.length - 1) 0 ≠ 0) : cutL (ci l) = ci l := by
  obtain ⟨n, hn⟩ : ∃ n, l.length = n + 1 := ⟨l.length - 1, by omega⟩
  have e : cutN (ci l) (ci l).length = (ci l).length := by
    rw [ci_length, hn, cutN, if_neg]
    rw [ci_getD]
    rw [hn, Nat.add_sub_cancel] at h
    omega
  unfold cutL
  rw [e, List.take_length]
theorem cutL_app {l : List Nat} (m : Nat) (h0 : 0 < l.length) (h : l.getD (l.length - 1) 0 ≠ 0) : cutL (ci (l ++ List.replicate m 0)) = ci l := by
  have hstep : ∀ j, j ≤ m → cutN (ci (l ++ List.replicate m 0)) (l.length + j) = l.length := by
    intro j
    induction j with
    | zero =>
      intro _
      obtain ⟨n, hn⟩ : ∃ n, l.length = n + 1 := ⟨l.length - 1, by omega⟩
      rw [Nat.add_zero, hn, cutN, if_neg]
      rw [ci_getD]
      have : (l ++ List.replicate m 0).getD n 0 = l.getD n 0 := by
        simp only [List.getD_eq_getElem?_getD]
        rw [List.getElem?_append_left (by omega)]
      rw [this]
      rw [hn, Nat.add_sub_cancel] at h
      omega
    | succ j ih =>
      intro hj
      rw [← Nat.add_assoc, cutN, if_pos]
      · exact ih (by omega)
      · rw [ci_getD]
        simp only [List.getD_eq_getElem?_getD]
        rw [List.getElem?_append_right (by omega), List.getElem?_replicate]
        split <;> simp
  unfold cutL
  have e : (ci (l ++ List.replicate m 0)).length = l.length + m := by rw [ci_length]; simp
  rw [e, hstep m (Nat.le_refl _)]
  simp [ci]

/-- What the product comes to. -/
def mulR (xs ys : List Int) : List Int × Bool :=
  if goodP xs = true ∧ goodP ys = true then
    if xs.length = 0 ∨ ys.length = 0 then ([], true)
    else if 40 < xs.length + ys.length - 1 then ([], false)
    else (ci (mp (nat xs) (nat ys) (List.replicate (xs.length + ys.length - 1) 0) xs.length), true)
  else ([], false)
theorem last_nat {xs : List Int} (h : goodP xs = true) (h0 : 0 < xs.length) : (nat xs).getD (xs.length - 1) 0 ≠ 0 := by
  have h1 := goodP_last h h0
  have h2 := goodP_all h (xs.length - 1) (by omega)
  have e : (nat xs).getD (xs.length - 1) 0 = (xs.getD (xs.length - 1) 0).toNat := by
    simp only [nat, List.getD_eq_getElem?_getD, List.getElem?_map]
    cases xs[xs.length - 1]? <;> simp
  rw [e]
  omega
/-- The model's row, its noughts taken off, is the program's. -/
theorem cut_mp {xs ys : List Int} (hx : goodP xs = true) (hy : goodP ys = true) (h0 : 0 < xs.length) (h1 : 0 < ys.length) :
    cutL (ci (mp (nat xs) (nat ys) (List.replicate (xs.length + ys.length) 0) xs.length)) = ci (mp (nat xs) (nat ys) (List.replicate (xs.length + ys.length - 1) 0) xs.length) := by
  obtain ⟨n, hn⟩ : ∃ n, xs.length + ys.length = n + 1 := ⟨xs.length + ys.length - 1, by omega⟩
  have hn1 : n + 1 = (nat xs).length + (nat ys).length := by rw [nat_length, nat_length]; omega
  have e : List.replicate (n + 1) 0 = List.replicate n 0 ++ [0] := List.replicate_succ'
  have hlen : xs.length ≤ (nat xs).length := by rw [nat_length]; exact Nat.le_refl _
  rw [hn, Nat.add_sub_cancel, e, mp_app xs.length hlen (by rw [List.length_replicate]; omega)]
  have hl : (mp (nat xs) (nat ys) (List.replicate n 0) xs.length).length = n := by rw [mp_length, List.length_replicate]
  have htop := mp_top (p := nat xs) (q := nat ys) (n := n) (by rw [nat_length]; exact h0) (by rw [nat_length]; exact h1) hn1
  rw [nat_length, nat_length] at htop
  refine cutL_app 1 (by rw [hl]; omega) ?_
  rw [hl, htop]
  intro h
  have := mul_eq_zero _ _ (nat_ltp (goodP_mem hx) _) (nat_ltp (goodP_mem hy) _) h
  rcases this with h | h
  · exact last_nat hx h0 h
  · exact last_nat hy h1 h
theorem mp_nil_q {p s0 : List Nat} (k : Nat) : mp p [] s0 k = s0 := by
  induction k with
  | zero => rfl
  | succ k ih => rw [mp, ih]; rfl
end Gf
end Go.Proofs.YtogopakmebiomaaDoor

namespace Go.Proofs.YtogopakmebiomaaDoor
namespace Gf

/-- One step of the division at place k: the quotient's number there. -/
def dq (left q : List Nat) (k : Nat) : Nat := mul (left.getD (k + q.length - 1) 0) (inv (q.getD (q.length - 1) 0))
/-- What is left, and the quotient, when the places from k on have been gone through, of m + 1 in all. -/
def dv (p q : List Nat) (m len : Nat) : Nat → List Nat × List Nat
  | 0 => (p, List.replicate len 0)
  | j + 1 =>
    let s := dv p q m len j
    (amTo s.1 q (dq s.1 q (m - j)) (m - j) q.length, s.2.set (m - j) (dq s.1 q (m - j)))
theorem dv_len1 (p q : List Nat) (m len j : Nat) : (dv p q m len j).1.length = p.length := by
  induction j with
  | zero => rfl
  | succ j ih => simp [dv, amTo_length, ih]
theorem dv_len2 (p q : List Nat) (m len j : Nat) : (dv p q m len j).2.length = len := by
  induction j with
  | zero => simp [dv]
  | succ j ih => simp [dv, ih]
theorem dv_lt1 {p q : List Nat} {m len : Nat} (hp : AllLt p) (j : Nat) : AllLt (dv p q m len j).1 := by
  induction j with
  | zero => exact hp
  | succ j ih => exact amTo_lt ih (mul_lt (ih _)) _
theorem dq_lt {left q : List Nat} (h : AllLt left) (k : Nat) : dq left q k < 256 := mul_lt (h _)
theorem dv_lt2 {p q : List Nat} {m len : Nat} (hp : AllLt p) (j : Nat) : AllLt (dv p q m len j).2 := by
  induction j with
  | zero => exact allLt_zeros _
  | succ j ih => exact ih.set _ _ (dq_lt (dv_lt1 hp j) _)
/-- The longer quotient is the shorter one with noughts behind it. -/
theorem dv_app {p q : List Nat} {m : Nat} (e : Nat) (j : Nat) : (dv p q m (m + 1 + e) j).1 = (dv p q m (m + 1) j).1 ∧ (dv p q m (m + 1 + e) j).2 = (dv p q m (m + 1) j).2 ++ List.replicate e 0 := by
  induction j with
  | zero => exact ⟨rfl, by simp [dv, ← List.replicate_append_replicate]⟩
  | succ j ih =>
    simp only [dv]
    rw [ih.1, ih.2]
    refine ⟨rfl, ?_⟩
    rw [List.set_append_left _ _ (by rw [dv_len2]; omega)]
/-- Its highest number, when it has been gone through. -/
theorem dv_top {p q : List Nat} {m : Nat} (j : Nat) (hj : j ≤ m) : (dv p q m (m + 1) (j + 1)).2.getD m 0 = dq p q m := by
  induction j with
  | zero =>
    simp only [dv, Nat.sub_zero]
    rw [List.getD_eq_getElem?_getD, List.getElem?_set_self (by simp), Option.getD_some]
  | succ j ih =>
    rw [dv]
    simp only []
    rw [List.getD_eq_getElem?_getD, List.getElem?_set_ne (by omega), ← List.getD_eq_getElem?_getD]
    exact ih (by omega)
/-- What the division comes to: the quotient, the rest, and the word. -/
def divR (xs ys : List Int) : List Int × List Int × Bool :=
  if goodP xs = true ∧ goodP ys = true ∧ ys.length ≠ 0 then
    if xs.length < ys.length then ([], cutL xs, true)
    else
      let s := dv (nat xs) (nat ys) (xs.length - ys.length) (xs.length - ys.length + 1) (xs.length - ys.length + 1)
      (ci s.2, cutL (ci s.1), true)
  else ([], [], false)
/-- The model's quotient, its noughts taken off, is the program's. -/
theorem cut_dv {xs ys : List Int} (hx : goodP xs = true) (hy : goodP ys = true) (h0 : 0 < ys.length) (h1 : ys.length ≤ xs.length) :
    cutL (ci (dv (nat xs) (nat ys) (xs.length - ys.length) xs.length (xs.length - ys.length + 1)).2) = ci (dv (nat xs) (nat ys) (xs.length - ys.length) (xs.length - ys.length + 1) (xs.length - ys.length + 1)).2 := by
  obtain ⟨m, hm⟩ : ∃ m, m = xs.length - ys.length := ⟨_, rfl⟩
  obtain ⟨e, he⟩ : ∃ e, xs.length = m + 1 + e := ⟨ys.length - 1, by omega⟩
  rw [← hm]
  have hlen : dv (nat xs) (nat ys) m xs.length (m + 1) = dv (nat xs) (nat ys) m (m + 1 + e) (m + 1) := by rw [← he]
  rw [hlen, (dv_app e (m + 1)).2]
  refine cutL_app e (by rw [dv_len2]; omega) ?_
  rw [dv_len2, Nat.add_sub_cancel, dv_top m (Nat.le_refl _)]
  intro h
  have hx0 : 0 < xs.length := by omega
  have := mul_eq_zero _ _ (nat_ltp (goodP_mem hx) _) (inv_lt _) h
  rcases this with h | h
  · have e1 : m + (nat ys).length - 1 = xs.length - 1 := by rw [nat_length]; omega
    rw [e1] at h
    exact last_nat hx hx0 h
  · refine inv_ne (nat_ltp (goodP_mem hy) _) ?_ h
    rw [nat_length]
    exact last_nat hy h0
theorem dv_same1 {xs ys : List Int} (h0 : 0 < ys.length) (h1 : ys.length ≤ xs.length) :
    (dv (nat xs) (nat ys) (xs.length - ys.length) xs.length (xs.length - ys.length + 1)).1 = (dv (nat xs) (nat ys) (xs.length - ys.length) (xs.length - ys.length + 1) (xs.length - ys.length + 1)).1 := by
  obtain ⟨m, hm⟩ : ∃ m, m = xs.length - ys.length := ⟨_, rfl⟩
  obtain ⟨e, he⟩ : ∃ e, xs.length = m + 1 + e := ⟨ys.length - 1, by omega⟩
  rw [← hm]
  have hlen : dv (nat xs) (nat ys) m xs.length (m + 1) = dv (nat xs) (nat ys) m (m + 1 + e) (m + 1) := by rw [← he]
  rw [hlen, (dv_app e (m + 1)).1]
theorem divR_no {xs ys : List Int} (h : ¬ (goodP xs = true ∧ goodP ys = true ∧ ys.length ≠ 0)) : divR xs ys = ([], [], false) := by
  unfold divR
  rw [if_neg h]
theorem divR_short {xs ys : List Int} (hx : goodP xs = true) (hy : goodP ys = true) (h0 : ys.length ≠ 0) (h : xs.length < ys.length) : divR xs ys = ([], cutL xs, true) := by
  unfold divR
  rw [if_pos ⟨hx, hy, h0⟩, if_pos h]
theorem divR_yes {xs ys : List Int} (hx : goodP xs = true) (hy : goodP ys = true) (h0 : ys.length ≠ 0) (h : ¬ xs.length < ys.length) :
    divR xs ys = (ci (dv (nat xs) (nat ys) (xs.length - ys.length) (xs.length - ys.length + 1) (xs.length - ys.length + 1)).2, cutL (ci (dv (nat xs) (nat ys) (xs.length - ys.length) (xs.length - ys.length + 1) (xs.length - ys.length + 1)).1), true) := by
  unfold divR
  rw [if_pos ⟨hx, hy, h0⟩, if_neg h]
theorem divR_len (xs ys : List Int) : (divR xs ys).1.length ≤ 1048576 ∧ (divR xs ys).2.1.length ≤ 1048576 := by
  by_cases h : goodP xs = true ∧ goodP ys = true ∧ ys.length ≠ 0
  · have hl := goodP_len h.1
    by_cases hs : xs.length < ys.length
    · rw [divR_short h.1 h.2.1 h.2.2 hs]
      have := cutN_le xs xs.length
      have := cutL_length xs
      exact ⟨by simp, by show (cutL xs).length ≤ _; omega⟩
    · rw [divR_yes h.1 h.2.1 h.2.2 hs]
      refine ⟨by simp only [ci_length, dv_len2]; omega, ?_⟩
      show (cutL _).length ≤ _
      rw [cutL_length]
      refine Nat.le_trans (cutN_le _ _) ?_
      rw [ci_length, dv_len1, nat_length]
      omega
  · rw [divR_no h]
    exact ⟨by simp, by simp⟩
end Gf
end Go.Proofs.YtogopakmebiomaaDoor

namespace Go.Proofs.YtogopakmebiomaaDoor
namespace Gf

def evn (x : Nat) : List Nat → Nat
  | [] => 0
  | c :: cs => mul (evn x cs) x ^^^ c
theorem ev_ci (x : Nat) (l : List Nat) : ev x (ci l) = evn x l := by
  induction l with
  | nil => rfl
  | cons c cs ih =>
    show mul (ev x (ci cs)) x ^^^ _ = _
    rw [ih]; rfl
theorem AllLt.head {c : Nat} {cs : List Nat} (h : AllLt (c :: cs)) : c < 256 := by simpa using h 0
theorem AllLt.tail {c : Nat} {cs : List Nat} (h : AllLt (c :: cs)) : AllLt cs := fun i => by simpa using h (i + 1)
theorem AllLt.take {l : List Nat} (h : AllLt l) (n : Nat) : AllLt (l.take n) := by
  intro i
  have := h i
  simp only [List.getD_eq_getElem?_getD, List.getElem?_take] at *
  split
  · exact this
  · simp
theorem evn_lt {x : Nat} : ∀ {l : List Nat}, AllLt l → evn x l < 256
  | [], _ => by simp [evn]
  | _ :: _, h => Nat.xor_lt_two_pow (n := 8) (mul_lt (evn_lt h.tail)) h.head
def px (x : Nat) : Nat → Nat
  | 0 => 1
  | i + 1 => mul (px x i) x
theorem px_lt (x i : Nat) : px x i < 256 := by
  induction i with
  | zero => show 1 < 256; omega
  | succ i ih => exact mul_lt ih
theorem px_add {x : Nat} (hx : x < 256) (a k : Nat) : px x (a + k) = mul (px x a) (px x k) := by
  induction k with
  | zero => exact (mul_one _ (px_lt x a)).symm
  | succ k ih => rw [← Nat.add_assoc, px, ih, mul_assoc _ _ _ (px_lt x a) (px_lt x k) hx]; rfl
theorem mul4 {a b c d : Nat} (ha : a < 256) (hb : b < 256) (hc : c < 256) (hd : d < 256) : mul (mul a b) (mul c d) = mul (mul a c) (mul b d) := by
  rw [mul_assoc a b _ ha hb (mul_lt hc), ← mul_assoc b c d hb hc hd, mul_comm b c hb hc, mul_assoc c b d hc hb hd, ← mul_assoc a c _ ha hc (mul_lt hb)]
theorem evn_xorAt {x : Nat} (hx : x < 256) : ∀ (l : List Nat) (i d : Nat), AllLt l → d < 256 → i < l.length → evn x (xorAt l i d) = evn x l ^^^ mul d (px x i)
  | [], i, d, _, _, h => by simp at h
  | c :: cs, 0, d, _, hd, _ => by
    show mul (evn x cs) x ^^^ (c ^^^ d) = (mul (evn x cs) x ^^^ c) ^^^ mul d 1
    rw [mul_one d hd, Nat.xor_assoc]
  | c :: cs, i + 1, d, hl, hd, h => by
    have ih := evn_xorAt hx cs i d hl.tail hd (by simpa using h)
    have e : xorAt (c :: cs) (i + 1) d = c :: xorAt cs i d := by simp [xorAt]
    rw [e]
    show mul (evn x (xorAt cs i d)) x ^^^ c = (mul (evn x cs) x ^^^ c) ^^^ mul d (mul (px x i) x)
    rw [ih, mul_xor_a _ _ _ (evn_lt hl.tail) (mul_lt hd), mul_assoc _ _ _ hd (px_lt x i) hx, Nat.xor_assoc, Nat.xor_comm (mul d _) c, ← Nat.xor_assoc]
theorem evn_snoc {x : Nat} (hx : x < 256) : ∀ (l : List Nat) (c : Nat), AllLt l → c < 256 → evn x (l ++ [c]) = evn x l ^^^ mul c (px x l.length)
  | [], c, _, hc => by
    show mul 0 x ^^^ c = 0 ^^^ mul c 1
    rw [zero_mul hx, mul_one c hc]
  | d :: ds, c, hl, hc => by
    have ih := evn_snoc hx ds c hl.tail hc
    show mul (evn x (ds ++ [c])) x ^^^ d = (mul (evn x ds) x ^^^ d) ^^^ mul c (mul (px x ds.length) x)
    rw [ih, mul_xor_a _ _ _ (evn_lt hl.tail) (mul_lt hc), mul_assoc _ _ _ hc (px_lt x _) hx, Nat.xor_assoc, Nat.xor_comm (mul c _) d, ← Nat.xor_assoc]
theorem evn_take {x : Nat} (hx : x < 256) {l : List Nat} (hl : AllLt l) {k : Nat} (hk : k < l.length) : evn x (l.take (k + 1)) = evn x (l.take k) ^^^ mul (l.getD k 0) (px x k) := by
  have e : l.take (k + 1) = l.take k ++ [l.getD k 0] := by
    rw [List.take_succ_eq_append_getElem hk, List.getD_eq_getElem?_getD, List.getElem?_eq_getElem hk, Option.getD_some]
  rw [e, evn_snoc hx _ _ (hl.take k) (hl k), List.length_take, Nat.min_eq_left (Nat.le_of_lt hk)]
theorem evn_am {x : Nat} (hx : x < 256) {s q : List Nat} {f a : Nat} (hs : AllLt s) (hq : AllLt q) (hf : f < 256) (k : Nat) (hk : k ≤ q.length) (hfit : a + k ≤ s.length) :
    evn x (amTo s q f a k) = evn x s ^^^ mul (mul f (px x a)) (evn x (q.take k)) := by
  induction k with
  | zero => show evn x s = evn x s ^^^ mul _ 0; rw [mul_zero, Nat.xor_zero]
  | succ k ih =>
    rw [amTo, evn_xorAt hx _ _ _ (amTo_lt hs hf k) (mul_lt hf) (by rw [amTo_length]; omega), ih (by omega) (by omega), evn_take hx hq (by omega), mul_xor_b, px_add hx, mul4 hf (hq k) (px_lt x a) (px_lt x k), Nat.xor_assoc]
theorem evn_zeros {x : Nat} (hx : x < 256) (n : Nat) : evn x (List.replicate n 0) = 0 := by
  induction n with
  | zero => rfl
  | succ n ih =>
    show mul (evn x (List.replicate n 0)) x ^^^ 0 = 0
    rw [ih, zero_mul hx]; rfl
theorem evn_mp {x : Nat} (hx : x < 256) {p q s0 : List Nat} (hp : AllLt p) (hq : AllLt q) (hs : AllLt s0) (k : Nat) (hk : k ≤ p.length) (hfit : p.length + q.length ≤ s0.length + 1) :
    evn x (mp p q s0 k) = evn x s0 ^^^ mul (evn x (p.take k)) (evn x q) := by
  induction k with
  | zero => show evn x s0 = evn x s0 ^^^ mul 0 _; rw [zero_mul (evn_lt hq), Nat.xor_zero]
  | succ k ih =>
    rw [mp, evn_am hx (mp_lt hs hp k) hq (hp k) _ (Nat.le_refl _) (by rw [mp_length]; omega), List.take_length, ih (by omega), evn_take hx hp (by omega), mul_xor_a _ _ _ (evn_lt (hp.take k)) (mul_lt (hp k)), Nat.xor_assoc]
theorem evn_cut {x : Nat} (hx : x < 256) {l : List Nat} (hl : AllLt l) : ∀ n, n ≤ l.length → evn x (l.take (cutN (ci l) n)) = evn x (l.take n)
  | 0, _ => rfl
  | n + 1, h => by
    rw [cutN]
    split
    · rename_i h0
      rw [ci_getD] at h0
      have h1 : l.getD n 0 = 0 := by omega
      rw [evn_cut hx hl n (by omega), evn_take hx hl (by omega), h1, zero_mul (px_lt x n), Nat.xor_zero]
    · rfl
theorem ci_take (l : List Nat) (n : Nat) : (ci l).take n = ci (l.take n) := by simp [ci]
theorem cutL_ci (l : List Nat) : cutL (ci l) = ci (l.take (cutN (ci l) l.length)) := by
  unfold cutL
  rw [ci_length, ci_take]
theorem ev_cut {x : Nat} (hx : x < 256) {l : List Nat} (hl : AllLt l) : ev x (cutL (ci l)) = evn x l := by
  rw [cutL_ci, ev_ci, evn_cut hx hl _ (Nat.le_refl _), List.take_length]

theorem goodP_ci {l : List Nat} (hl : AllLt l) (h40 : l.length ≤ 40) (hlast : l.length = 0 ∨ l.getD (l.length - 1) 0 ≠ 0) : goodP (ci l) = true := by
  have h1 : decide ((ci l).length ≤ 40) = true := by rw [ci_length]; simpa using h40
  have h2 : (ci l).all elOk = true := by
    rw [all_of_getD]
    intro i _
    rw [ci_getD]
    have := hl i
    exact elOk_iff.2 (by omega)
  have h3 : ((ci l).isEmpty || (ci l).getD ((ci l).length - 1) 0 != 0) = true := by
    rw [ci_length, ci_getD]
    rcases hlast with h | h
    · have : l = [] := List.eq_nil_of_length_eq_zero h
      subst this; rfl
    · have : ((l.getD (l.length - 1) 0 : Nat) : Int) ≠ 0 := by omega
      rw [Bool.or_eq_true]
      exact .inr (bne_iff_ne.2 this)
  simp only [goodP, h1, h2, h3, Bool.true_and]
theorem cutN_last (xs : List Int) : ∀ n, cutN xs n = 0 ∨ xs.getD (cutN xs n - 1) 0 ≠ 0
  | 0 => .inl rfl
  | n + 1 => by
    rw [cutN]
    split
    · exact cutN_last xs n
    · right; simpa using ‹_›
theorem goodP_cut {l : List Nat} (hl : AllLt l) (h40 : l.length ≤ 40) : goodP (cutL (ci l)) = true := by
  have hn := cutN_le (ci l) l.length
  rw [cutL_ci]
  have hlen : (l.take (cutN (ci l) l.length)).length = cutN (ci l) l.length := by rw [List.length_take]; omega
  refine goodP_ci (hl.take _) (by omega) ?_
  rw [hlen]
  rcases cutN_last (ci l) l.length with h | h
  · exact .inl h
  · by_cases h0 : cutN (ci l) l.length = 0
    · exact .inl h0
    · right
      rw [ci_getD] at h
      rw [List.getD_eq_getElem?_getD, List.getElem?_take, if_pos (by omega), ← List.getD_eq_getElem?_getD]
      omega
theorem cutN_bound {xs : List Int} {B : Nat} : ∀ n, (∀ i, B ≤ i → i < n → xs.getD i 0 = 0) → cutN xs n ≤ B
  | 0, _ => Nat.zero_le _
  | n + 1, h => by
    by_cases hb : B ≤ n
    · rw [cutN, if_pos (h n hb (by omega))]
      exact cutN_bound n (fun i h1 h2 => h i h1 (by omega))
    · have := cutN_le xs (n + 1)
      omega

theorem dv2_zero {p q : List Nat} {m len : Nat} : ∀ (j : Nat) (i : Nat), i + j ≤ m → (dv p q m len j).2.getD i 0 = 0
  | 0, i, _ => by
    show (List.replicate len 0).getD i 0 = 0
    simp only [List.getD_eq_getElem?_getD, List.getElem?_replicate]
    split <;> simp
  | j + 1, i, h => by
    rw [dv]
    simp only []
    rw [List.getD_eq_getElem?_getD, List.getElem?_set_ne (by omega), ← List.getD_eq_getElem?_getD]
    exact dv2_zero j i (by omega)
theorem evn_dv {x : Nat} (hx : x < 256) {p q : List Nat} {m : Nat} (hp : AllLt p) (hq : AllLt q) (hm : m + q.length = p.length) : ∀ j, j ≤ m + 1 →
    evn x (dv p q m (m + 1) j).1 ^^^ mul (evn x q) (evn x (dv p q m (m + 1) j).2) = evn x p
  | 0, _ => by
    show evn x p ^^^ mul (evn x q) (evn x (List.replicate (m + 1) 0)) = evn x p
    rw [evn_zeros hx, mul_zero, Nat.xor_zero]
  | j + 1, h => by
    have ih := evn_dv hx hp hq hm j (by omega)
    have hd := dq_lt (q := q) (dv_lt1 (q := q) (m := m) (len := m + 1) hp j) (m - j)
    have e : (dv p q m (m + 1) j).2.set (m - j) (dq (dv p q m (m + 1) j).1 q (m - j)) = xorAt (dv p q m (m + 1) j).2 (m - j) (dq (dv p q m (m + 1) j).1 q (m - j)) := by
      unfold xorAt
      rw [dv2_zero j (m - j) (by omega), Nat.zero_xor]
    rw [dv]
    simp only []
    rw [e, evn_am hx (dv_lt1 hp j) hq hd _ (Nat.le_refl _) (by rw [dv_len1]; omega), List.take_length, evn_xorAt hx _ _ _ (dv_lt2 hp j) hd (by rw [dv_len2]; omega), mul_xor_b, mul_comm (evn x q) (mul _ _) (evn_lt hq) (mul_lt hd)]
    rw [← ih, xor4, Nat.xor_self, Nat.xor_zero]
theorem dv1_zero {p q : List Nat} {m : Nat} (hp : AllLt p) (hq : AllLt q) (hm : m + q.length = p.length) (h0 : 0 < q.length) (hq0 : q.getD (q.length - 1) 0 ≠ 0) : ∀ j, j ≤ m + 1 → ∀ i, m + q.length ≤ i + j → (dv p q m (m + 1) j).1.getD i 0 = 0
  | 0, _, i, h => by
    show p.getD i 0 = 0
    rw [List.getD_eq_getElem?_getD, List.getElem?_eq_none (by omega)]; rfl
  | j + 1, hj, i, h => by
    have ih := dv1_zero hp hq hm h0 hq0 j (by omega)
    obtain ⟨k, hk⟩ : ∃ k, k = m - j := ⟨_, rfl⟩
    obtain ⟨n, hn⟩ : ∃ n, q.length = n + 1 := ⟨q.length - 1, by omega⟩
    rw [dv]
    simp only []
    rw [← hk]
    by_cases hi : i = k + n
    · subst hi
      rw [hn, amTo, xorAt, List.getD_eq_getElem?_getD, List.getElem?_set_self (by rw [amTo_length, dv_len1]; omega), Option.getD_some, amTo_far n (Nat.le_refl _)]
      rw [hn, Nat.add_sub_cancel] at hq0
      have e : mul (dq (dv p q m (m + 1) j).1 q k) (q.getD n 0) = (dv p q m (m + 1) j).1.getD (k + n) 0 := by
        unfold dq
        rw [hn, Nat.add_sub_cancel, show k + (n + 1) - 1 = k + n from by omega, mul_assoc _ _ _ (dv_lt1 hp j _) (inv_lt _) (hq n), mul_comm (inv _) _ (inv_lt _) (hq n), mul_inv _ (hq n) hq0, mul_one _ (dv_lt1 hp j _)]
      rw [e, Nat.xor_self]
    · rw [amTo_far _ (by omega)]
      exact ih i (by omega)

theorem ev_good {x : Nat} {xs : List Int} (h : goodP xs = true) : ev x xs = evn x (nat xs) := by
  rw [← ev_ci, ci_natp (goodP_mem h)]
theorem div_facts {xs ys : List Int} (h : (divR xs ys).2.2 = true) :
    goodP xs = true ∧ goodP ys = true ∧ goodP (divR xs ys).1 = true ∧ goodP (divR xs ys).2.1 = true ∧ (divR xs ys).2.1.length < ys.length ∧
      ∀ x, x < 256 → mul (ev x ys) (ev x (divR xs ys).1) ^^^ ev x (divR xs ys).2.1 = ev x xs := by
  by_cases hg : goodP xs = true ∧ goodP ys = true ∧ ys.length ≠ 0
  · obtain ⟨hx, hy, h0⟩ := hg
    have ax := nat_ltp (goodP_mem hx)
    have ay := nat_ltp (goodP_mem hy)
    have lx := goodP_len hx
    by_cases hs : xs.length < ys.length
    · rw [divR_short hx hy h0 hs]
      have e : cutL xs = cutL (ci (nat xs)) := by rw [ci_natp (goodP_mem hx)]
      refine ⟨hx, hy, goodP_nil, ?_, ?_, fun x hx256 => ?_⟩
      · show goodP (cutL xs) = true
        rw [e]
        exact goodP_cut ax (by rw [nat_length]; exact lx)
      · show (cutL xs).length < ys.length
        have := cutL_length xs
        have := cutN_le xs xs.length
        omega
      · show mul (ev x ys) 0 ^^^ ev x (cutL xs) = ev x xs
        rw [mul_zero, Nat.zero_xor, e, ev_cut hx256 ax, ev_good hx]
    · rw [divR_yes hx hy h0 hs]
      obtain ⟨m, hm⟩ : ∃ m, m = xs.length - ys.length := ⟨_, rfl⟩
      rw [← hm]
      have hml : m + (nat ys).length = (nat xs).length := by rw [nat_length, nat_length]; omega
      have hy0 : 0 < (nat ys).length := by rw [nat_length]; omega
      have hl : (nat ys).getD ((nat ys).length - 1) 0 ≠ 0 := by rw [nat_length]; exact last_nat hy (by omega)
      refine ⟨hx, hy, ?_, goodP_cut (dv_lt1 ax _) (by rw [dv_len1, nat_length]; exact lx), ?_, fun x hx256 => ?_⟩
      · refine goodP_ci (dv_lt2 ax _) (by rw [dv_len2]; omega) (.inr ?_)
        rw [dv_len2, Nat.add_sub_cancel, dv_top m (Nat.le_refl _)]
        intro hz
        rcases mul_eq_zero _ _ (ax _) (inv_lt _) hz with hz | hz
        · rw [show m + (nat ys).length - 1 = xs.length - 1 from by rw [nat_length]; omega] at hz
          exact last_nat hx (by omega) hz
        · exact inv_ne (ay _) hl hz
      · show (cutL _).length < ys.length
        rw [cutL_length, ci_length]
        have hb := cutN_bound (xs := ci (dv (nat xs) (nat ys) m (m + 1) (m + 1)).1) (B := ys.length - 1) (dv (nat xs) (nat ys) m (m + 1) (m + 1)).1.length (fun i h1 _ => by
          rw [ci_getD, dv1_zero ax ay hml hy0 hl (m + 1) (Nat.le_refl _) i (by rw [nat_length]; omega)]; rfl)
        omega
      · show mul (ev x ys) (ev x (ci _)) ^^^ ev x (cutL (ci _)) = ev x xs
        rw [ev_ci, ev_cut hx256 (dv_lt1 ax _), ev_good hx, ev_good hy, Nat.xor_comm]
        exact evn_dv hx256 ax ay hml (m + 1) (Nat.le_refl _)
  · rw [divR_no hg] at h
    cases h
theorem mul_facts {xs ys : List Int} (h : (mulR xs ys).2 = true) :
    goodP xs = true ∧ goodP ys = true ∧ goodP (mulR xs ys).1 = true ∧ (∀ x, x < 256 → mul (ev x xs) (ev x ys) = ev x (mulR xs ys).1) ∧
      (0 < xs.length → 0 < ys.length → (mulR xs ys).1.length = xs.length + ys.length - 1) := by
  by_cases hg : goodP xs = true ∧ goodP ys = true
  · obtain ⟨hx, hy⟩ := hg
    have ax := nat_ltp (goodP_mem hx)
    have ay := nat_ltp (goodP_mem hy)
    by_cases he : xs.length = 0 ∨ ys.length = 0
    · have e : mulR xs ys = ([], true) := by unfold mulR; rw [if_pos ⟨hx, hy⟩, if_pos he]
      rw [e]
      refine ⟨hx, hy, goodP_nil, fun x hx256 => ?_, fun h1 h2 => by omega⟩
      show _ = 0
      rcases he with he | he
      · have : xs = [] := List.eq_nil_of_length_eq_zero he
        subst this
        show mul 0 _ = 0
        rw [ev_good hy, zero_mul (evn_lt ay)]
      · have : ys = [] := List.eq_nil_of_length_eq_zero he
        subst this
        exact mul_zero _
    · by_cases hl : 40 < xs.length + ys.length - 1
      · have e : mulR xs ys = ([], false) := by unfold mulR; rw [if_pos ⟨hx, hy⟩, if_neg he, if_pos hl]
        rw [e] at h
        cases h
      · have e : mulR xs ys = (ci (mp (nat xs) (nat ys) (List.replicate (xs.length + ys.length - 1) 0) xs.length), true) := by unfold mulR; rw [if_pos ⟨hx, hy⟩, if_neg he, if_neg hl]
        rw [e]
        obtain ⟨n, hn⟩ : ∃ n, n = xs.length + ys.length - 1 := ⟨_, rfl⟩
        rw [← hn]
        have hlen : (mp (nat xs) (nat ys) (List.replicate n 0) xs.length).length = n := by rw [mp_length, List.length_replicate]
        refine ⟨hx, hy, goodP_ci (mp_lt (allLt_zeros n) ax _) (by rw [hlen]; omega) (.inr ?_), fun x hx256 => ?_, fun _ _ => by show (ci _).length = _; rw [ci_length, hlen]⟩
        · rw [hlen]
          have htop := mp_top (p := nat xs) (q := nat ys) (n := n) (by rw [nat_length]; omega) (by rw [nat_length]; omega) (by rw [nat_length, nat_length]; omega)
          rw [nat_length, nat_length] at htop
          rw [htop]
          intro hz
          rcases mul_eq_zero _ _ (ax _) (ay _) hz with hz | hz
          · exact last_nat hx (by omega) hz
          · exact last_nat hy (by omega) hz
        · show _ = ev x (ci _)
          rw [ev_ci, ev_good hx, ev_good hy, evn_mp hx256 ax ay (allLt_zeros n) _ (by rw [nat_length]; exact Nat.le_refl _) (by rw [nat_length, nat_length, List.length_replicate]; omega), evn_zeros hx256, Nat.zero_xor, List.take_of_length_le (by rw [nat_length]; exact Nat.le_refl _)]
  · have e : mulR xs ys = ([], false) := by unfold mulR; rw [if_neg hg]
    rw [e] at h
    cases h
end Gf
end Go.Proofs.YtogopakmebiomaaDoor

namespace Go.Proofs.YtogopakmebiomaaDoor
namespace Gf

theorem px_one (k : Nat) : px 1 k = 1 := by
  induction k with
  | zero => rfl
  | succ k ih => rw [px, ih]; rfl
theorem px_mul {x y : Nat} (hx : x < 256) (hy : y < 256) (k : Nat) : px (mul x y) k = mul (px x k) (px y k) := by
  induction k with
  | zero => show 1 = mul 1 1; rw [one_mul 1 (by omega)]
  | succ k ih => rw [px, px, px, ih, mul4 (px_lt x k) (px_lt y k) hx hy]
/-- The sum of z i times X i to the k, for i below n. -/
def vs (z X : Nat → Nat) (k : Nat) : Nat → Nat
  | 0 => 0
  | n + 1 => vs z X k n ^^^ mul (z n) (px (X n) k)
theorem vs_lt {z X : Nat → Nat} {k : Nat} (hz : ∀ i, z i < 256) (n : Nat) : vs z X k n < 256 := by
  induction n with
  | zero => show 0 < 256; omega
  | succ n ih => exact xor_lt ih (mul_lt (hz n))
theorem vs_congr {z z' X X' : Nat → Nat} {k : Nat} (n : Nat) (h : ∀ i, i < n → z i = z' i ∧ X i = X' i) : vs z X k n = vs z' X' k n := by
  induction n with
  | zero => rfl
  | succ n ih => rw [vs, vs, ih (fun i hi => h i (by omega)), (h n (by omega)).1, (h n (by omega)).2]
theorem vs_nil (X : Nat → Nat) (k n : Nat) : vs (fun _ => 0) X k n = 0 := by
  induction n with
  | zero => rfl
  | succ i ih => rw [vs, ih, zero_mul (px_lt _ _)]; rfl
theorem vs_step {z X : Nat → Nat} {Y k : Nat} (hz : ∀ i, z i < 256) (hX : ∀ i, X i < 256) (hY : Y < 256) (n : Nat) :
    vs z X (k + 1) n ^^^ mul Y (vs z X k n) = vs (fun i => mul (z i) (X i ^^^ Y)) X k n := by
  induction n with
  | zero => rw [vs, vs, vs, mul_zero]; rfl
  | succ n ih =>
    rw [vs, vs, vs, ← ih, mul_xor_b, xor4]
    congr 1
    show mul (z n) (mul (px (X n) k) (X n)) ^^^ mul Y (mul (z n) (px (X n) k)) = mul (mul (z n) (X n ^^^ Y)) (px (X n) k)
    have hp := px_lt (X n) k
    rw [mul_left Y _ _ hY (hz n) hp, ← mul_xor_b, mul_comm _ (X n) hp (hX n), ← mul_xor_a _ _ _ (hX n) hY, ← mul_assoc _ _ _ (hz n) (xor_lt (hX n) hY) hp]
theorem vand_zero : ∀ (n : Nat) (z X : Nat → Nat), (∀ i, z i < 256) → (∀ i, X i < 256) → (∀ i j, i < n → j < n → i ≠ j → X i ≠ X j) →
    (∀ k, k < n → vs z X k n = 0) → ∀ i, i < n → z i = 0 := by
  intro n
  induction n with
  | zero => intro z X _ _ _ _ i hi; omega
  | succ n ih =>
    intro z X hz hX hu h
    have h1 : ∀ k, k < n → vs (fun i => mul (z i) (X i ^^^ X n)) X k n = 0 := by
      intro k hk
      have e := vs_step (Y := X n) (k := k) hz hX (hX n) (n + 1)
      rw [h k (by omega), h (k + 1) (by omega), mul_zero] at e
      rw [vs, show mul (mul (z n) (X n ^^^ X n)) (px (X n) k) = 0 from by rw [Nat.xor_self, mul_zero, zero_mul (px_lt _ _)]] at e
      simpa using e.symm
    have h2 := ih (fun i => mul (z i) (X i ^^^ X n)) X (fun i => mul_lt (hz i)) hX (fun i j hi hj => hu i j (by omega) (by omega)) h1
    have low : ∀ i, i < n → z i = 0 := by
      intro i hi
      rcases mul_eq_zero _ _ (hz i) (xor_lt (hX i) (hX n)) (h2 i hi) with e | e
      · exact e
      · exact absurd (xor_zero_eq e) (hu i n (by omega) (by omega) (by omega))
    intro i hi
    by_cases hin : i < n
    · exact low i hin
    · obtain rfl : i = n := by omega
      have e := h 0 (by omega)
      rw [vs] at e
      have e0 : vs z X 0 i = 0 := by
        rw [vs_congr (z' := fun _ => 0) (X' := X) i (fun j hj => ⟨low j hj, rfl⟩)]
        exact vs_nil X 0 i
      rw [e0, Nat.zero_xor] at e
      have : mul (z i) 1 = 0 := e
      rwa [mul_one _ (hz i)] at this
/-- As many points and more sums: the first as many do. -/
theorem vs_far {z X : Nat → Nat} {n : Nat} (hz : ∀ i, z i < 256) (hX : ∀ i, X i < 256) (hu : ∀ i j, i < n → j < n → i ≠ j → X i ≠ X j) (h : ∀ k, k < n → vs z X k n = 0) (k : Nat) : vs z X k n = 0 := by
  have h0 := vand_zero n z X hz hX hu h
  rw [vs_congr (z' := fun _ => 0) (X' := X) n (fun j hj => ⟨h0 j hj, rfl⟩)]
  exact vs_nil X k n
/-- A polynomial's value as a sum of multiples of powers. -/
def sp (c : Nat → Nat) (x : Nat) : Nat → Nat
  | 0 => 0
  | n + 1 => sp c x n ^^^ mul (c n) (px x n)
theorem evn_sp {x : Nat} (hx : x < 256) {l : List Nat} (hl : AllLt l) (n : Nat) (hn : n ≤ l.length) : evn x (l.take n) = sp (fun i => l.getD i 0) x n := by
  induction n with
  | zero => rfl
  | succ n ih => rw [evn_take hx hl (by omega), ih (by omega), sp]
theorem sp_congr {c c' : Nat → Nat} {x : Nat} (n : Nat) (h : ∀ i, i < n → c i = c' i) : sp c x n = sp c' x n := by
  induction n with
  | zero => rfl
  | succ n ih => rw [sp, sp, ih (fun i hi => h i (by omega)), h n (by omega)]
theorem sp_more {c : Nat → Nat} {x : Nat} (n m : Nat) (h : ∀ i, n ≤ i → c i = 0) : sp c x (n + m) = sp c x n := by
  induction m with
  | zero => rfl
  | succ m ih => rw [← Nat.add_assoc, sp, ih, h (n + m) (by omega), zero_mul (px_lt _ _), Nat.xor_zero]
theorem evn_fun {x : Nat} (hx : x < 256) {l : List Nat} (hl : AllLt l) (n : Nat) (hn : l.length ≤ n) : evn x l = sp (fun i => l.getD i 0) x n := by
  have e := evn_sp hx hl l.length (Nat.le_refl _)
  rw [List.take_of_length_le (Nat.le_refl _)] at e
  obtain ⟨m, rfl⟩ : ∃ m, n = l.length + m := ⟨n - l.length, by omega⟩
  rw [sp_more _ m (fun i hi => by simp [List.getD_eq_getElem?_getD, hi]), e]

end Gf
end Go.Proofs.YtogopakmebiomaaDoor

namespace Go.Proofs.YtogopakmebiomaaDoor
namespace Gf

def fn (l : List Nat) (i : Nat) : Nat := l.getD i 0
theorem fn_far {l : List Nat} {i : Nat} (h : l.length ≤ i) : fn l i = 0 := by simp [fn, List.getD_eq_getElem?_getD, h]
theorem am_get {s q : List Nat} {f a : Nat} (k i : Nat) (hfit : a + k ≤ s.length) : (amTo s q f a k).getD i 0 = if a ≤ i ∧ i < a + k then s.getD i 0 ^^^ mul f (q.getD (i - a) 0) else s.getD i 0 := by
  induction k with
  | zero => rw [if_neg (by omega)]; rfl
  | succ k ih =>
    rw [amTo, xorAt]
    have ih := ih (by omega)
    by_cases e : i = a + k
    · subst e
      rw [List.getD_eq_getElem?_getD, List.getElem?_set_self (by rw [amTo_length]; omega), Option.getD_some, ih, if_neg (by omega), if_pos (by omega), Nat.add_sub_cancel_left]
    · rw [List.getD_eq_getElem?_getD, List.getElem?_set_ne (by omega), ← List.getD_eq_getElem?_getD, ih]
      by_cases h : a ≤ i ∧ i < a + k
      · rw [if_pos h, if_pos (by omega)]
      · rw [if_neg h, if_neg (by omega)]
/-- A function moved up by so many places. -/
def shf (q : Nat → Nat) (a i : Nat) : Nat := if a ≤ i then q (i - a) else 0
theorem am_fun {s q : List Nat} {f a : Nat} (hfit : a + q.length ≤ s.length) (i : Nat) : fn (amTo s q f a q.length) i = fn s i ^^^ mul f (shf (fn q) a i) := by
  unfold fn shf
  rw [am_get _ _ hfit]
  by_cases h : a ≤ i
  · rw [if_pos h]
    by_cases h2 : i < a + q.length
    · rw [if_pos ⟨h, h2⟩]
    · rw [if_neg (by omega)]
      show s.getD i 0 = s.getD i 0 ^^^ mul f (q.getD (i - a) 0)
      rw [show q.getD (i - a) 0 = 0 from fn_far (by omega), mul_zero, Nat.xor_zero]
  · rw [if_neg h, if_neg (by omega), mul_zero, Nat.xor_zero]

/-- The sum of c's i times s's k - i, for i below j. -/
def dsc (c s : Nat → Nat) (k : Nat) : Nat → Nat
  | 0 => 0
  | i + 1 => dsc c s k i ^^^ mul (c i) (s (k - i))
theorem dsc_lt {c s : Nat → Nat} {k : Nat} (hc : ∀ i, c i < 256) (j : Nat) : dsc c s k j < 256 := by
  induction j with
  | zero => show 0 < 256; omega
  | succ j ih => exact xor_lt ih (mul_lt (hc j))
theorem dsc_congr {c c' s : Nat → Nat} {k : Nat} (h : ∀ i, c i = c' i) (j : Nat) : dsc c s k j = dsc c' s k j := by
  induction j with
  | zero => rfl
  | succ j ih => rw [dsc, dsc, ih, h j]
theorem dsc_more {c s : Nat → Nat} {k : Nat} (hs : ∀ i, s i < 256) (j m : Nat) (h : ∀ i, j ≤ i → c i = 0) : dsc c s k (j + m) = dsc c s k j := by
  induction m with
  | zero => rfl
  | succ m ih => rw [← Nat.add_assoc, dsc, ih, h (j + m) (by omega), zero_mul (hs _), Nat.xor_zero]
theorem dsc_min {c s : Nat → Nat} {k : Nat} (hs : ∀ i, s i < 256) (j l : Nat) (h : ∀ i, l ≤ i → c i = 0) : dsc c s k (min j l) = dsc c s k j := by
  by_cases hjl : j ≤ l
  · rw [Nat.min_eq_left hjl]
  · rw [Nat.min_eq_right (by omega)]
    have := dsc_more (k := k) hs l (j - l) h
    rw [show l + (j - l) = j from by omega] at this
    exact this.symm

structure Bm where
  c : List Nat
  b : List Nat
  last : Nat
  m : Nat
  long : Nat
def cutNl (l : List Nat) : List Nat := l.take (cutN (ci l) l.length)
theorem cutL_nl (l : List Nat) : cutL (ci l) = ci (cutNl l) := cutL_ci l
theorem cutNl_length (l : List Nat) : (cutNl l).length = cutN (ci l) l.length := by
  have := cutN_le (ci l) l.length
  simp [cutNl]; omega
theorem cutN_above (xs : List Int) : ∀ n i, cutN xs n ≤ i → i < n → xs.getD i 0 = 0
  | 0, i, _, h => by omega
  | n + 1, i, h1, h2 => by
    rw [cutN] at h1
    split at h1
    next h =>
      by_cases e : i = n
      · subst e; exact h
      · exact cutN_above xs n i h1 (by omega)
    next => omega
theorem cutNl_fn (l : List Nat) (i : Nat) : fn (cutNl l) i = fn l i := by
  by_cases h : i < cutN (ci l) l.length
  · simp [fn, cutNl, List.getD_eq_getElem?_getD, h]
  · rw [fn_far (by rw [cutNl_length]; omega)]
    by_cases h2 : i < l.length
    · have := cutN_above (ci l) l.length i (by omega) h2
      rw [ci_getD] at this
      unfold fn
      omega
    · rw [fn_far (by omega)]
theorem cutNl_lt {l : List Nat} (h : AllLt l) : AllLt (cutNl l) := h.take _
theorem cutNl_ext {l m : List Nat} (h : ∀ i, fn l i = fn m i) : cutNl l = cutNl m := by
  have key : ∀ a b : List Nat, (∀ i, fn a i = fn b i) → (cutNl a).length ≤ (cutNl b).length := by
    intro a b hab
    have hl := cutNl_length a
    rcases cutN_last (ci a) a.length with h0 | h0
    · omega
    · rw [← hl] at h0
      by_cases hz : (cutNl a).length = 0
      · omega
      · by_cases hle : (cutNl a).length ≤ (cutNl b).length
        · exact hle
        · exfalso
          apply h0
          rw [ci_getD]
          have e : fn (cutNl b) ((cutNl a).length - 1) = 0 := fn_far (by omega)
          rw [cutNl_fn, ← hab] at e
          show ((fn a ((cutNl a).length - 1) : Nat) : Int) = 0
          rw [e]; rfl
  have h1 := key l m h
  have h2 := key m l (fun i => (h i).symm)
  apply List.ext_getElem?
  intro i
  by_cases hi : i < (cutNl l).length
  · have e : fn (cutNl l) i = fn (cutNl m) i := by rw [cutNl_fn, cutNl_fn, h i]
    have hm : i < (cutNl m).length := by omega
    simp only [fn, List.getD_eq_getElem?_getD, List.getElem?_eq_getElem hi, List.getElem?_eq_getElem hm, Option.getD_some] at e
    rw [List.getElem?_eq_getElem hi, List.getElem?_eq_getElem hm, e]
  · rw [List.getElem?_eq_none (by omega), List.getElem?_eq_none (by omega)]

def bmD (s : List Nat) (k : Nat) (q : Bm) : Nat := dsc (fn q.c) (fn s) k (q.long + 1)
def bmC (s : List Nat) (k : Nat) (q : Bm) : List Nat := amTo q.c q.b (mul (bmD s k q) (inv q.last)) q.m q.b.length
def bmStep (s : List Nat) (k : Nat) (q : Bm) : Bm :=
  if bmD s k q = 0 then ⟨q.c, q.b, q.last, q.m + 1, q.long⟩
  else if k < 2 * q.long then ⟨bmC s k q, q.b, q.last, q.m + 1, q.long⟩
  else ⟨bmC s k q, cutNl q.c, bmD s k q, 1, k + 1 - q.long⟩
def bmTo (s : List Nat) : Nat → Bm
  | 0 => ⟨1 :: List.replicate s.length 0, [1], 1, 1, 0⟩
  | k + 1 => bmStep s k (bmTo s k)
/-- What holds of the program's state ahead of step k, of n syndromes. -/
structure BmI (n k : Nat) (q : Bm) : Prop where
  len : q.c.length = n + 1
  cl : AllLt q.c
  bl : AllLt q.b
  l0 : q.last ≠ 0
  ll : q.last < 256
  m1 : 1 ≤ q.m
  lk : q.long ≤ k
  top : ∀ i, q.long < i → fn q.c i = 0
  fit : q.b.length + q.m + q.long ≤ k + 2
  one : fn q.c 0 = 1
theorem bmD_lt {s : List Nat} {k : Nat} {q : Bm} (hq : AllLt q.c) : bmD s k q < 256 := dsc_lt hq _
theorem bmC_fn {s : List Nat} {n k : Nat} {q : Bm} (h : BmI n k q) (hk : k < n) (i : Nat) : fn (bmC s k q) i = fn q.c i ^^^ mul (mul (bmD s k q) (inv q.last)) (shf (fn q.b) q.m i) :=
  am_fun (by have := h.fit; have := h.len; omega) i
theorem bm_inv {s : List Nat} (hs : AllLt s) : ∀ k, k ≤ s.length → BmI s.length k (bmTo s k)
  | 0, _ => by
    refine ⟨by simp [bmTo], ?_, ?_, by show (1 : Nat) ≠ 0; omega, by show (1 : Nat) < 256; omega, Nat.le_refl _, Nat.le_refl _, ?_, by simp [bmTo], rfl⟩
    · intro i
      cases i with
      | zero => show 1 < 256; omega
      | succ i => exact allLt_zeros s.length i
    · intro i
      cases i with
      | zero => show 1 < 256; omega
      | succ i => show 0 < 256; omega
    · intro i hi
      cases i with
      | zero => exact absurd hi (Nat.lt_irrefl _)
      | succ i => simp [fn, bmTo, List.getD_eq_getElem?_getD, List.getElem?_replicate]; split <;> simp
  | k + 1, hk => by
    have h := bm_inv hs k (by omega)
    rw [bmTo]
    generalize bmTo s k = q at h
    have hC : AllLt (bmC s k q) := amTo_lt h.cl (mul_lt (bmD_lt h.cl)) _
    have hCl : (bmC s k q).length = s.length + 1 := by unfold bmC; rw [amTo_length]; exact h.len
    have hfit := h.fit
    have hm1 := h.m1
    have hlk := h.lk
    have h1 : fn (bmC s k q) 0 = 1 := by
      rw [bmC_fn h hk, h.one, shf, if_neg (by omega), mul_zero, Nat.xor_zero]
    have htop : ∀ i, q.long < i → k + 1 - q.long < i → fn (bmC s k q) i = 0 := by
      intro i h2 h3
      rw [bmC_fn h hk, h.top i h2, shf]
      split
      · rw [fn_far (by omega), mul_zero, Nat.xor_zero]
      · rw [mul_zero, Nat.xor_zero]
    unfold bmStep
    split
    · exact ⟨h.len, h.cl, h.bl, h.l0, h.ll, by show 1 ≤ q.m + 1; omega, by show q.long ≤ k + 1; omega, h.top, by show q.b.length + (q.m + 1) + q.long ≤ k + 1 + 2; omega, h.one⟩
    · next hd =>
      split
      · next h2 => exact ⟨hCl, hC, h.bl, h.l0, h.ll, by show 1 ≤ q.m + 1; omega, by show q.long ≤ k + 1; omega, fun i hi => htop i hi (by have : q.long < i := hi; omega), by show q.b.length + (q.m + 1) + q.long ≤ k + 1 + 2; omega, h1⟩
      · next h2 =>
        refine ⟨hCl, hC, cutNl_lt h.cl, hd, bmD_lt h.cl, Nat.le_refl _, by show k + 1 - q.long ≤ k + 1; omega, fun i hi => htop i (by have : k + 1 - q.long < i := hi; omega) hi, ?_, h1⟩
        show (cutNl q.c).length + 1 + (k + 1 - q.long) ≤ k + 1 + 2
        have : cutN (ci q.c) q.c.length ≤ q.long + 1 := cutN_bound _ (fun i hi _ => by
          rw [ci_getD]
          have := h.top i (by omega)
          unfold fn at this
          rw [this]; rfl)
        rw [cutNl_length]
        omega

def smD (s : List Nat) (k : Nat) (q : Bm) : Nat := dsc (fn q.c) (fn s) k (min (q.long + 1) q.c.length)
/-- A list with noughts behind it, as many as are wanted. -/
def padTo (p : List Nat) (n : Nat) : List Nat := p ++ List.replicate (n - p.length) 0
theorem padTo_fn (p : List Nat) (n i : Nat) : fn (padTo p n) i = fn p i := by
  unfold fn padTo
  simp only [List.getD_eq_getElem?_getD]
  by_cases h : i < p.length
  · rw [List.getElem?_append_left h]
  · rw [List.getElem?_append_right (by omega), List.getElem?_replicate, List.getElem?_eq_none (by omega)]
    split <;> rfl
theorem padTo_length (p : List Nat) (n : Nat) : (padTo p n).length = max p.length n := by simp [padTo]; omega
theorem padTo_lt {p : List Nat} (h : AllLt p) (n : Nat) : AllLt (padTo p n) := fun i => by
  have := padTo_fn p n i
  unfold fn at this
  rw [this]
  exact h i
def smAdd (p q : List Nat) (f m : Nat) : List Nat := amTo (padTo p (q.length + m)) q f m q.length
theorem smAdd_fn {p q : List Nat} {f m : Nat} (i : Nat) : fn (smAdd p q f m) i = fn p i ^^^ mul f (shf (fn q) m i) := by
  unfold smAdd
  rw [am_fun (by rw [padTo_length]; omega), padTo_fn]
def smStep (s : List Nat) (k : Nat) (q : Bm) : Bm :=
  if smD s k q = 0 then ⟨q.c, q.b, q.last, q.m + 1, q.long⟩
  else if 2 * q.long ≤ k then ⟨smAdd q.c q.b (mul (smD s k q) (inv q.last)) q.m, q.c, smD s k q, 1, k + 1 - q.long⟩
  else ⟨smAdd q.c q.b (mul (smD s k q) (inv q.last)) q.m, q.b, q.last, q.m + 1, q.long⟩
def smTo (s : List Nat) : Nat → Bm
  | 0 => ⟨[1], [1], 1, 1, 0⟩
  | k + 1 => smStep s k (smTo s k)
structure SmI (k : Nat) (q : Bm) : Prop where
  cl : AllLt q.c
  bl : AllLt q.b
  ll : q.last < 256
  lc : 1 ≤ q.c.length
  lc2 : q.c.length ≤ k + 1
  lb : q.b.length + q.m ≤ k + 2
  m1 : 1 ≤ q.m
  lk : q.long ≤ k
theorem smD_lt {s : List Nat} {k : Nat} {q : Bm} (hq : AllLt q.c) : smD s k q < 256 := dsc_lt hq _
theorem smAdd_length (p q : List Nat) (f m : Nat) : (smAdd p q f m).length = max p.length (q.length + m) := by unfold smAdd; rw [amTo_length, padTo_length]
theorem sm_inv (s : List Nat) : ∀ k, SmI k (smTo s k)
  | 0 => by
    have one : AllLt [1] := by
      intro i
      cases i with
      | zero => show 1 < 256; omega
      | succ i => show 0 < 256; omega
    exact ⟨one, one, by show (1 : Nat) < 256; omega, Nat.le_refl _, Nat.le_refl _, Nat.le_refl _, Nat.le_refl _, Nat.le_refl _⟩
  | k + 1 => by
    have h := sm_inv s k
    rw [smTo]
    generalize smTo s k = q at h
    obtain ⟨h1, h2, h3, h4, h5, h6, h7, h8⟩ := h
    have hC : AllLt (smAdd q.c q.b (mul (smD s k q) (inv q.last)) q.m) := amTo_lt (padTo_lt h1 _) (mul_lt (smD_lt h1)) _
    have hl := smAdd_length q.c q.b (mul (smD s k q) (inv q.last)) q.m
    unfold smStep
    split
    · exact ⟨h1, h2, h3, h4, by show q.c.length ≤ k + 1 + 1; omega, by show q.b.length + (q.m + 1) ≤ k + 1 + 2; omega, by show 1 ≤ q.m + 1; omega, by show q.long ≤ k + 1; omega⟩
    · split
      · exact ⟨hC, h1, smD_lt h1, by show 1 ≤ (smAdd _ _ _ _).length; omega, by show (smAdd _ _ _ _).length ≤ k + 1 + 1; omega, by show q.c.length + 1 ≤ k + 1 + 2; omega, Nat.le_refl _, by show k + 1 - q.long ≤ k + 1; omega⟩
      · exact ⟨hC, h2, h3, by show 1 ≤ (smAdd _ _ _ _).length; omega, by show (smAdd _ _ _ _).length ≤ k + 1 + 1; omega, by show q.b.length + (q.m + 1) ≤ k + 1 + 2; omega, by show 1 ≤ q.m + 1; omega, by show q.long ≤ k + 1; omega⟩
structure BmR (p q : Bm) : Prop where
  c : ∀ i, fn p.c i = fn q.c i
  b : ∀ i, fn p.b i = fn q.b i
  last : p.last = q.last
  m : p.m = q.m
  long : p.long = q.long
theorem bm_same {s : List Nat} (hs : AllLt s) : ∀ k, k ≤ s.length → BmR (bmTo s k) (smTo s k)
  | 0, _ => by
    refine ⟨fun i => ?_, fun i => rfl, rfl, rfl, rfl⟩
    cases i with
    | zero => rfl
    | succ i =>
      show fn (1 :: List.replicate s.length 0) (i + 1) = fn [1] (i + 1)
      simp [fn, List.getD_eq_getElem?_getD, List.getElem?_replicate]
      split <;> simp
  | k + 1, hk => by
    have h := bm_same hs k (by omega)
    have hi := bm_inv hs k (by omega)
    rw [bmTo, smTo]
    generalize bmTo s k = p at h hi
    generalize smTo s k = q at h
    obtain ⟨hc, hb, hla, hm, hlo⟩ := h
    have hd : bmD s k p = smD s k q := by
      unfold bmD smD
      rw [dsc_min (s := fn s) hs _ _ (fun i hi => fn_far hi), hlo]
      exact dsc_congr hc _
    have hC : ∀ i, fn (bmC s k p) i = fn (smAdd q.c q.b (mul (smD s k q) (inv q.last)) q.m) i := by
      intro i
      rw [bmC_fn hi hk, smAdd_fn, hd, hla, hm, hc]
      congr 2
      unfold shf
      split
      · exact hb _
      · rfl
    unfold bmStep smStep
    rw [hd, hlo]
    split
    · exact ⟨hc, hb, hla, by show p.m + 1 = q.m + 1; rw [hm], rfl⟩
    · by_cases h2 : 2 * q.long ≤ k
      · rw [if_neg (by omega), if_pos h2]
        exact ⟨hC, fun i => by show fn (cutNl p.c) i = fn q.c i; rw [cutNl_fn, hc], rfl, rfl, rfl⟩
      · rw [if_pos (by omega), if_neg h2]
        exact ⟨hC, hb, hla, by show p.m + 1 = q.m + 1; rw [hm], rfl⟩
/-- The rule that both tell. -/
def locN (s : List Nat) : List Nat := cutNl (bmTo s s.length).c
theorem loc_same {s : List Nat} (hs : AllLt s) : cutNl (smTo s s.length).c = locN s := (cutNl_ext (bm_same hs s.length (Nat.le_refl _)).c).symm

end Gf
end Go.Proofs.YtogopakmebiomaaDoor
