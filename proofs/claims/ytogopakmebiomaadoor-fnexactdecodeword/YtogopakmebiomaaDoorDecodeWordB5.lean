/-
  Values of polynomials: of sums, products and divisions; that what comes out are polynomials, and that a rest is shorter than what divides. Plain mathematics. No condition. Sums of multiples of powers: where the points are unlike, and as many such sums are nought as there are points, each multiple is nought (Vandermonde); the value of a polynomial as such a sum. Plain mathematics. No condition. The shortest rule of syndromes (Berlekamp, Massey), step by step, as plain functions on lists: the program's way, in a row of fixed length, and the model's; that both tell the same. Plain mathematics. No condition. Which places of a word a rule tells: by values at inverted points, and by division; that both tell the same. Plain mathematics. No condition. The laws' own small functions over rows of integers (how great, copied, compared, marked, looked whether the marks are held), call by call. Each contract says what it asks.
-/
import Derived.Test.YtogopakmebiomaaDoorDecodeWordB4
import Derived.Test.YtogopakmebiomaaDoorDecodeWordB2
namespace Go.Proofs.YtogopakmebiomaaDoor
namespace Gf

def evn (x : Nat) : List Nat → Nat
  | [] => 0
  | c :: cs => mul (evn x cs) x ^^^ c
theorem ev_ci (x : Nat) (l : List Nat) : ev x (ci l) = evn x l := by
  induction l with
  | nil => rfl
  | cons c cs ih =>
    show mul (ev x (ci cs)) x ^^^ _ = _
    rw [ih]; rfl
theorem AllLt.head {c : Nat} {cs : List Nat} (h : AllLt (c :: cs)) : c < 256 := by simpa using h 0
theorem AllLt.tail {c : Nat} {cs : List Nat} (h : AllLt (c :: cs)) : AllLt cs := fun i => by simpa using h (i + 1)
theorem AllLt.take {l : List Nat} (h : AllLt l) (n : Nat) : AllLt (l.take n) := by
  intro i
  have := h i
  simp only [List.getD_eq_getElem?_getD, List.getElem?_take] at *
  split
  · exact this
  · simp
theorem evn_lt {x : Nat} : ∀ {l : List Nat}, AllLt l → evn x l < 256
  | [], _ => by simp [evn]
  | _ :: _, h => Nat.xor_lt_two_pow (n := 8) (mul_lt (evn_lt h.tail)) h.head
def px (x : Nat) : Nat → Nat
  | 0 => 1
  | i + 1 => mul (px x i) x
theorem px_lt (x i : Nat) : px x i < 256 := by
  induction i with
  | zero => show 1 < 256; omega
  | succ i ih => exact mul_lt ih
theorem px_add {x : Nat} (hx : x < 256) (a k : Nat) : px x (a + k) = mul (px x a) (px x k) := by
  induction k with
  | zero => exact (mul_one _ (px_lt x a)).symm
  | succ k ih => rw [← Nat.add_assoc, px, ih, mul_assoc _ _ _ (px_lt x a) (px_lt x k) hx]; rfl
theorem mul4 {a b c d : Nat} (ha : a < 256) (hb : b < 256) (hc : c < 256) (hd : d < 256) : mul (mul a b) (mul c d) = mul (mul a c) (mul b d) := by
  rw [mul_assoc a b _ ha hb (mul_lt hc), ← mul_assoc b c d hb hc hd, mul_comm b c hb hc, mul_assoc c b d hc hb hd, ← mul_assoc a c _ ha hc (mul_lt hb)]
theorem evn_xorAt {x : Nat} (hx : x < 256) : ∀ (l : List Nat) (i d : Nat), AllLt l → d < 256 → i < l.length → evn x (xorAt l i d) = evn x l ^^^ mul d (px x i)
  | [], i, d, _, _, h => by simp at h
  | c :: cs, 0, d, _, hd, _ => by
    show mul (evn x cs) x ^^^ (c ^^^ d) = (mul (evn x cs) x ^^^ c) ^^^ mul d 1
    rw [mul_one d hd, Nat.xor_assoc]
  | c :: cs, i + 1, d, hl, hd, h => by
    have ih := evn_xorAt hx cs i d hl.tail hd (by simpa using h)
    have e : xorAt (c :: cs) (i + 1) d = c :: xorAt cs i d := by simp [xorAt]
    rw [e]
    show mul (evn x (xorAt cs i d)) x ^^^ c = (mul (evn x cs) x ^^^ c) ^^^ mul d (mul (px x i) x)
    rw [ih, mul_xor_a _ _ _ (evn_lt hl.tail) (mul_lt hd), mul_assoc _ _ _ hd (px_lt x i) hx, Nat.xor_assoc, Nat.xor_comm (mul d _) c, ← Nat.xor_assoc]
theorem evn_snoc {x : Nat} (hx : x < 256) : ∀ (l : List Nat) (c : Nat), AllLt l → c < 256 → evn x (l ++ [c]) = evn x l ^^^ mul c (px x l.length)
  | [], c, _, hc => by
    show mul 0 x ^^^ c = 0 ^^^ mul c 1
    rw [zero_mul hx, mul_one c hc]
  | d :: ds, c, hl, hc => by
    have ih := evn_snoc hx ds c hl.tail hc
    show mul (evn x (ds ++ [c])) x ^^^ d = (mul (evn x ds) x ^^^ d) ^^^ mul c (mul (px x ds.length) x)
    rw [ih, mul_xor_a _ _ _ (evn_lt hl.tail) (mul_lt hc), mul_assoc _ _ _ hc (px_lt x _) hx, Nat.xor_assoc, Nat.xor_comm (mul c _) d, ← Nat.xor_assoc]
theorem evn_take {x : Nat} (hx : x < 256) {l : List Nat} (hl : AllLt l) {k : Nat} (hk : k < l.length) : evn x (l.take (k + 1)) = evn x (l.take k) ^^^ mul (l.getD k 0) (px x k) := by
  have e : l.take (k + 1) = l.take k ++ [l.getD k 0] := by
    rw [List.take_succ_eq_append_getElem hk, List.getD_eq_getElem?_getD, List.getElem?_eq_getElem hk, Option.getD_some]
  rw [e, evn_snoc hx _ _ (hl.take k) (hl k), List.length_take, Nat.min_eq_left (Nat.le_of_lt hk)]
theorem evn_am {x : Nat} (hx : x < 256) {s q : List Nat} {f a : Nat} (hs : AllLt s) (hq : AllLt q) (hf : f < 256) (k : Nat) (hk : k ≤ q.length) (hfit : a + k ≤ s.length) :
    evn x (amTo s q f a k) = evn x s ^^^ mul (mul f (px x a)) (evn x (q.take k)) := by
  induction k with
  | zero => show evn x s = evn x s ^^^ mul _ 0; rw [mul_zero, Nat.xor_zero]
  | succ k ih =>
    rw [amTo, evn_xorAt hx _ _ _ (amTo_lt hs hf k) (mul_lt hf) (by rw [amTo_length]; omega), ih (by omega) (by omega), evn_take hx hq (by omega), mul_xor_b, px_add hx, mul4 hf (hq k) (px_lt x a) (px_lt x k), Nat.xor_assoc]
theorem evn_zeros {x : Nat} (hx : x < 256) (n : Nat) : evn x (List.replicate n 0) = 0 := by
  induction n with
  | zero => rfl
  | succ n ih =>
    show mul (evn x (List.replicate n 0)) x ^^^ 0 = 0
    rw [ih, zero_mul hx]; rfl
theorem evn_mp {x : Nat} (hx : x < 256) {p q s0 : List Nat} (hp : AllLt p) (hq : AllLt q) (hs : AllLt s0) (k : Nat) (hk : k ≤ p.length) (hfit : p.length + q.length ≤ s0.length + 1) :
    evn x (mp p q s0 k) = evn x s0 ^^^ mul (evn x (p.take k)) (evn x q) := by
  induction k with
  | zero => show evn x s0 = evn x s0 ^^^ mul 0 _; rw [zero_mul (evn_lt hq), Nat.xor_zero]
  | succ k ih =>
    rw [mp, evn_am hx (mp_lt hs hp k) hq (hp k) _ (Nat.le_refl _) (by rw [mp_length]; omega), List.take_length, ih (by omega), evn_take hx hp (by omega), mul_xor_a _ _ _ (evn_lt (hp.take k)) (mul_lt (hp k)), Nat.xor_assoc]
theorem evn_cut {x : Nat} (hx : x < 256) {l : List Nat} (hl : AllLt l) : ∀ n, n ≤ l.length → evn x (l.take (cutN (ci l) n)) = evn x (l.take n)
  | 0, _ => rfl
  | n + 1, h => by
    rw [cutN]
    split
    · rename_i h0
      rw [ci_getD] at h0
      have h1 : l.getD n 0 = 0 := by omega
      rw [evn_cut hx hl n (by omega), evn_take hx hl (by omega), h1, zero_mul (px_lt x n), Nat.xor_zero]
    · rfl
theorem ci_take (l : List Nat) (n : Nat) : (ci l).take n = ci (l.take n) := by simp [ci]
theorem cutL_ci (l : List Nat) : cutL (ci l) = ci (l.take (cutN (ci l) l.length)) := by
  unfold cutL
  rw [ci_length, ci_take]
theorem ev_cut {x : Nat} (hx : x < 256) {l : List Nat} (hl : AllLt l) : ev x (cutL (ci l)) = evn x l := by
  rw [cutL_ci, ev_ci, evn_cut hx hl _ (Nat.le_refl _), List.take_length]

theorem goodP_ci {l : List Nat} (hl : AllLt l) (h40 : l.length ≤ 40) (hlast : l.length = 0 ∨ l.getD (l.length - 1) 0 ≠ 0) : goodP (ci l) = true := by
  have h1 : decide ((ci l).length ≤ 40) = true := by rw [ci_length]; simpa using h40
  have h2 : (ci l).all elOk = true := by
    rw [all_of_getD]
    intro i _
    rw [ci_getD]
    have := hl i
    exact elOk_iff.2 (by omega)
  have h3 : ((ci l).isEmpty || (ci l).getD ((ci l).length - 1) 0 != 0) = true := by
    rw [ci_length, ci_getD]
    rcases hlast with h | h
    · have : l = [] := List.eq_nil_of_length_eq_zero h
      subst this; rfl
    · have : ((l.getD (l.length - 1) 0 : Nat) : Int) ≠ 0 := by omega
      rw [Bool.or_eq_true]
      exact .inr (bne_iff_ne.2 this)
  simp only [goodP, h1, h2, h3, Bool.true_and]
theorem cutN_last (xs : List Int) : ∀ n, cutN xs n = 0 ∨ xs.getD (cutN xs n - 1) 0 ≠ 0
  | 0 => .inl rfl
  | n + 1 => by
    rw [cutN]
    split
    · exact cutN_last xs n
    · right; simpa using ‹_›
theorem goodP_cut {l : List Nat} (hl : AllLt l) (h40 : l.length ≤ 40) : goodP (cutL (ci l)) = true := by
  have hn := cutN_le (ci l) l.length
  rw [cutL_ci]
  have hlen : (l.take (cutN (ci l) l.length)).length = cutN (ci l) l.length := by rw [List.length_take]; omega
  refine goodP_ci (hl.take _) (by omega) ?_
  rw [hlen]
  rcases cutN_last (ci l) l.length with h | h
  · exact .inl h
  · by_cases h0 : cutN (ci l) l.length = 0
    · exact .inl h0
    · right
      rw [ci_getD] at h
      rw [List.getD_eq_getElem?_getD, List.getElem?_take, if_pos (by omega), ← List.getD_eq_getElem?_getD]
      omega
theorem cutN_bound {xs : List Int} {B : Nat} : ∀ n, (∀ i, B ≤ i → i < n → xs.getD i 0 = 0) → cutN xs n ≤ B
  | 0, _ => Nat.zero_le _
  | n + 1, h => by
    by_cases hb : B ≤ n
    · rw [cutN, if_pos (h n hb (by omega))]
      exact cutN_bound n (fun i h1 h2 => h i h1 (by omega))
    · have := cutN_le xs (n + 1)
      omega

theorem dv2_zero {p q : List Nat} {m len : Nat} : ∀ (j : Nat) (i : Nat), i + j ≤ m → (dv p q m len j).2.getD i 0 = 0
  | 0, i, _ => by
    show (List.replicate len 0).getD i 0 = 0
    simp only [List.getD_eq_getElem?_getD, List.getElem?_replicate]
    split <;> simp
  | j + 1, i, h => by
    rw [dv]
    simp only []
    rw [List.getD_eq_getElem?_getD, List.getElem?_set_ne (by omega), ← List.getD_eq_getElem?_getD]
    exact dv2_zero j i (by omega)
theorem evn_dv {x : Nat} (hx : x < 256) {p q : List Nat} {m : Nat} (hp : AllLt p) (hq : AllLt q) (hm : m + q.length = p.length) : ∀ j, j ≤ m + 1 →
    evn x (dv p q m (m + 1) j).1 ^^^ mul (evn x q) (evn x (dv p q m (m + 1) j).2) = evn x p
  | 0, _ => by
    show evn x p ^^^ mul (evn x q) (evn x (List.replicate (m + 1) 0)) = evn x p
    rw [evn_zeros hx, mul_zero, Nat.xor_zero]
  | j + 1, h => by
    have ih := evn_dv hx hp hq hm j (by omega)
    have hd := dq_lt (q := q) (dv_lt1 (q := q) (m := m) (len := m + 1) hp j) (m - j)
    have e : (dv p q m (m + 1) j).2.set (m - j) (dq (dv p q m (m + 1) j).1 q (m - j)) = xorAt (dv p q m (m + 1) j).2 (m - j) (dq (dv p q m (m + 1) j).1 q (m - j)) := by
      unfold xorAt
      rw [dv2_zero j (m - j) (by omega), Nat.zero_xor]
    rw [dv]
    simp only []
    rw [e, evn_am hx (dv_lt1 hp j) hq hd _ (Nat.le_refl _) (by rw [dv_len1]; omega), List.take_length, evn_xorAt hx _ _ _ (dv_lt2 hp j) hd (by rw [dv_len2]; omega), mul_xor_b, mul_comm (evn x q) (mul _ _) (evn_lt hq) (mul_lt hd)]
    rw [← ih, xor4, Nat.xor_self, Nat.xor_zero]
theorem dv1_zero {p q : List Nat} {m : Nat} (hp : AllLt p) (hq : AllLt q) (hm : m + q.length = p.length) (h0 : 0 < q.length) (hq0 : q.getD (q.length - 1) 0 ≠ 0) : ∀ j, j ≤ m + 1 → ∀ i, m + q.length ≤ i + j → (dv p q m (m + 1) j).1.getD i 0 = 0
  | 0, _, i, h => by
    show p.getD i 0 = 0
    rw [List.getD_eq_getElem?_getD, List.getElem?_eq_none (by omega)]; rfl
  | j + 1, hj, i, h => by
    have ih := dv1_zero hp hq hm h0 hq0 j (by omega)
    obtain ⟨k, hk⟩ : ∃ k, k = m - j := ⟨_, rfl⟩
    obtain ⟨n, hn⟩ : ∃ n, q.length = n + 1 := ⟨q.length - 1, by omega⟩
    rw [dv]
    simp only []
    rw [← hk]
    by_cases hi : i = k + n
    · subst hi
      rw [hn, amTo, xorAt, List.getD_eq_getElem?_getD, List.getElem?_set_self (by rw [amTo_length, dv_len1]; omega), Option.getD_some, amTo_far n (Nat.le_refl _)]
      rw [hn, Nat.add_sub_cancel] at hq0
      have e : mul (dq (dv p q m (m + 1) j).1 q k) (q.getD n 0) = (dv p q m (m + 1) j).1.getD (k + n) 0 := by
        unfold dq
        rw [hn, Nat.add_sub_cancel, show k + (n + 1) - 1 = k + n from by omega, mul_assoc _ _ _ (dv_lt1 hp j _) (inv_lt _) (hq n), mul_comm (inv _) _ (inv_lt _) (hq n), mul_inv _ (hq n) hq0, mul_one _ (dv_lt1 hp j _)]
      rw [e, Nat.xor_self]
    · rw [amTo_far _ (by omega)]
      exact ih i (by omega)

theorem ev_good {x : Nat} {xs : List Int} (h : goodP xs = true) : ev x xs = evn x (nat xs) := by
  rw [← ev_ci, ci_natp (goodP_mem h)]
theorem div_facts {xs ys : List Int} (h : (divR xs ys).2.2 = true) :
    goodP xs = true ∧ goodP ys = true ∧ goodP (divR xs ys).1 = true ∧ goodP (divR xs ys).2.1 = true ∧ (divR xs ys).2.1.length < ys.length ∧
      ∀ x, x < 256 → mul (ev x ys) (ev x (divR xs ys).1) ^^^ ev x (divR xs ys).2.1 = ev x xs := by
  by_cases hg : goodP xs = true ∧ goodP ys = true ∧ ys.length ≠ 0
  · obtain ⟨hx, hy, h0⟩ := hg
    have ax := nat_ltp (goodP_mem hx)
    have ay := nat_ltp (goodP_mem hy)
    have lx := goodP_len hx
    by_cases hs : xs.length < ys.length
    · rw [divR_short hx hy h0 hs]
      have e : cutL xs = cutL (ci (nat xs)) := by rw [ci_natp (goodP_mem hx)]
      refine ⟨hx, hy, goodP_nil, ?_, ?_, fun x hx256 => ?_⟩
      · show goodP (cutL xs) = true
        rw [e]
        exact goodP_cut ax (by rw [nat_length]; exact lx)
      · show (cutL xs).length < ys.length
        have := cutL_length xs
        have := cutN_le xs xs.length
        omega
      · show mul (ev x ys) 0 ^^^ ev x (cutL xs) = ev x xs
        rw [mul_zero, Nat.zero_xor, e, ev_cut hx256 ax, ev_good hx]
    · rw [divR_yes hx hy h0 hs]
      obtain ⟨m, hm⟩ : ∃ m, m = xs.length - ys.length := ⟨_, rfl⟩
      rw [← hm]
      have hml : m + (nat ys).length = (nat xs).length := by rw [nat_length, nat_length]; omega
      have hy0 : 0 < (nat ys).length := by rw [nat_length]; omega
      have hl : (nat ys).getD ((nat ys).length - 1) 0 ≠ 0 := by rw [nat_length]; exact last_nat hy (by omega)
      refine ⟨hx, hy, ?_, goodP_cut (dv_lt1 ax _) (by rw [dv_len1, nat_length]; exact lx), ?_, fun x hx256 => ?_⟩
      · refine goodP_ci (dv_lt2 ax _) (by rw [dv_len2]; omega) (.inr ?_)
        rw [dv_len2, Nat.add_sub_cancel, dv_top m (Nat.le_refl _)]
        intro hz
        rcases mul_eq_zero _ _ (ax _) (inv_lt _) hz with hz | hz
        · rw [show m + (nat ys).length - 1 = xs.length - 1 from by rw [nat_length]; omega] at hz
          exact last_nat hx (by omega) hz
        · exact inv_ne (ay _) hl hz
      · show (cutL _).length < ys.length
        rw [cutL_length, ci_length]
        have hb := cutN_bound (xs := ci (dv (nat xs) (nat ys) m (m + 1) (m + 1)).1) (B := ys.length - 1) (dv (nat xs) (nat ys) m (m + 1) (m + 1)).1.length (fun i h1 _ => by
          rw [ci_getD, dv1_zero ax ay hml hy0 hl (m + 1) (Nat.le_refl _) i (by rw [nat_length]; omega)]; rfl)
        omega
      · show mul (ev x ys) (ev x (ci _)) ^^^ ev x (cutL (ci _)) = ev x xs
        rw [ev_ci, ev_cut hx256 (dv_lt1 ax _), ev_good hx, ev_good hy, Nat.xor_comm]
        exact evn_dv hx256 ax ay hml (m + 1) (Nat.le_refl _)
  · rw [divR_no hg] at h
    cases h
theorem mul_facts {xs ys : List Int} (h : (mulR xs ys).2 = true) :
    goodP xs = true ∧ goodP ys = true ∧ goodP (mulR xs ys).1 = true ∧ (∀ x, x < 256 → mul (ev x xs) (ev x ys) = ev x (mulR xs ys).1) ∧
      (0 < xs.length → 0 < ys.length → (mulR xs ys).1.length = xs.length + ys.length - 1) := by
  by_cases hg : goodP xs = true ∧ goodP ys = true
  · obtain ⟨hx, hy⟩ := hg
    have ax := nat_ltp (goodP_mem hx)
    have ay := nat_ltp (goodP_mem hy)
    by_cases he : xs.length = 0 ∨ ys.length = 0
    · have e : mulR xs ys = ([], true) := by unfold mulR; rw [if_pos ⟨hx, hy⟩, if_pos he]
      rw [e]
      refine ⟨hx, hy, goodP_nil, fun x hx256 => ?_, fun h1 h2 => by omega⟩
      show _ = 0
      rcases he with he | he
      · have : xs = [] := List.eq_nil_of_length_eq_zero he
        subst this
        show mul 0 _ = 0
        rw [ev_good hy, zero_mul (evn_lt ay)]
      · have : ys = [] := List.eq_nil_of_length_eq_zero he
        subst this
        exact mul_zero _
    · by_cases hl : 40 < xs.length + ys.length - 1
      · have e : mulR xs ys = ([], false) := by unfold mulR; rw [if_pos ⟨hx, hy⟩, if_neg he, if_pos hl]
        rw [e] at h
        cases h
      · have e : mulR xs ys = (ci (mp (nat xs) (nat ys) (List.replicate (xs.length + ys.length - 1) 0) xs.length), true) := by unfold mulR; rw [if_pos ⟨hx, hy⟩, if_neg he, if_neg hl]
        rw [e]
        obtain ⟨n, hn⟩ : ∃ n, n = xs.length + ys.length - 1 := ⟨_, rfl⟩
        rw [← hn]
        have hlen : (mp (nat xs) (nat ys) (List.replicate n 0) xs.length).length = n := by rw [mp_length, List.length_replicate]
        refine ⟨hx, hy, goodP_ci (mp_lt (allLt_zeros n) ax _) (by rw [hlen]; omega) (.inr ?_), fun x hx256 => ?_, fun _ _ => by show (ci _).length = _; rw [ci_length, hlen]⟩
        · rw [hlen]
          have htop := mp_top (p := nat xs) (q := nat ys) (n := n) (by rw [nat_length]; omega) (by rw [nat_length]; omega) (by rw [nat_length, nat_length]; omega)
          rw [nat_length, nat_length] at htop
          rw [htop]
          intro hz
          rcases mul_eq_zero _ _ (ax _) (ay _) hz with hz | hz
          · exact last_nat hx (by omega) hz
          · exact last_nat hy (by omega) hz
        · show _ = ev x (ci _)
          rw [ev_ci, ev_good hx, ev_good hy, evn_mp hx256 ax ay (allLt_zeros n) _ (by rw [nat_length]; exact Nat.le_refl _) (by rw [nat_length, nat_length, List.length_replicate]; omega), evn_zeros hx256, Nat.zero_xor, List.take_of_length_le (by rw [nat_length]; exact Nat.le_refl _)]
  · have e : mulR xs ys = ([], false) := by unfold mulR; rw [if_neg hg]
    rw [e] at h
    cases h
end Gf
end Go.Proofs.YtogopakmebiomaaDoor

namespace Go.Proofs.YtogopakmebiomaaDoor
namespace Gf

theorem px_one (k : Nat) : px 1 k = 1 := by
  induction k with
  | zero => rfl
  | succ k ih => rw [px, ih]; rfl
theorem px_mul {x y : Nat} (hx : x < 256) (hy : y < 256) (k : Nat) : px (mul x y) k = mul (px x k) (px y k) := by
  induction k with
  | zero => show 1 = mul 1 1; rw [one_mul 1 (by omega)]
  | succ k ih => rw [px, px, px, ih, mul4 (px_lt x k) (px_lt y k) hx hy]
/-- The sum of z i times X i to the k, for i below n. -/
def vs (z X : Nat → Nat) (k : Nat) : Nat → Nat
  | 0 => 0
  | n + 1 => vs z X k n ^^^ mul (z n) (px (X n) k)
theorem vs_lt {z X : Nat → Nat} {k : Nat} (hz : ∀ i, z i < 256) (n : Nat) : vs z X k n < 256 := by
  induction n with
  | zero => show 0 < 256; omega
  | succ n ih => exact xor_lt ih (mul_lt (hz n))
theorem vs_congr {z z' X X' : Nat → Nat} {k : Nat} (n : Nat) (h : ∀ i, i < n → z i = z' i ∧ X i = X' i) : vs z X k n = vs z' X' k n := by
  induction n with
  | zero => rfl
  | succ n ih => rw [vs, vs, ih (fun i hi => h i (by omega)), (h n (by omega)).1, (h n (by omega)).2]
theorem vs_nil (X : Nat → Nat) (k n : Nat) : vs (fun _ => 0) X k n = 0 := by
  induction n with
  | zero => rfl
  | succ i ih => rw [vs, ih, zero_mul (px_lt _ _)]; rfl
theorem vs_step {z X : Nat → Nat} {Y k : Nat} (hz : ∀ i, z i < 256) (hX : ∀ i, X i < 256) (hY : Y < 256) (n : Nat) :
    vs z X (k + 1) n ^^^ mul Y (vs z X k n) = vs (fun i => mul (z i) (X i ^^^ Y)) X k n := by
  induction n with
  | zero => rw [vs, vs, vs, mul_zero]; rfl
  | succ n ih =>
    rw [vs, vs, vs, ← ih, mul_xor_b, xor4]
    congr 1
    show mul (z n) (mul (px (X n) k) (X n)) ^^^ mul Y (mul (z n) (px (X n) k)) = mul (mul (z n) (X n ^^^ Y)) (px (X n) k)
    have hp := px_lt (X n) k
    rw [mul_left Y _ _ hY (hz n) hp, ← mul_xor_b, mul_comm _ (X n) hp (hX n), ← mul_xor_a _ _ _ (hX n) hY, ← mul_assoc _ _ _ (hz n) (xor_lt (hX n) hY) hp]
theorem vand_zero : ∀ (n : Nat) (z X : Nat → Nat), (∀ i, z i < 256) → (∀ i, X i < 256) → (∀ i j, i < n → j < n → i ≠ j → X i ≠ X j) →
    (∀ k, k < n → vs z X k n = 0) → ∀ i, i < n → z i = 0 := by
  intro n
  induction n with
  | zero => intro z X _ _ _ _ i hi; omega
  | succ n ih =>
    intro z X hz hX hu h
    have h1 : ∀ k, k < n → vs (fun i => mul (z i) (X i ^^^ X n)) X k n = 0 := by
      intro k hk
      have e := vs_step (Y := X n) (k := k) hz hX (hX n) (n + 1)
      rw [h k (by omega), h (k + 1) (by omega), mul_zero] at e
      rw [vs, show mul (mul (z n) (X n ^^^ X n)) (px (X n) k) = 0 from by rw [Nat.xor_self, mul_zero, zero_mul (px_lt _ _)]] at e
      simpa using e.symm
    have h2 := ih (fun i => mul (z i) (X i ^^^ X n)) X (fun i => mul_lt (hz i)) hX (fun i j hi hj => hu i j (by omega) (by omega)) h1
    have low : ∀ i, i < n → z i = 0 := by
      intro i hi
      rcases mul_eq_zero _ _ (hz i) (xor_lt (hX i) (hX n)) (h2 i hi) with e | e
      · exact e
      · exact absurd (xor_zero_eq e) (hu i n (by omega) (by omega) (by omega))
    intro i hi
    by_cases hin : i < n
    · exact low i hin
    · obtain rfl : i = n := by omega
      have e := h 0 (by omega)
      rw [vs] at e
      have e0 : vs z X 0 i = 0 := by
        rw [vs_congr (z' := fun _ => 0) (X' := X) i (fun j hj => ⟨low j hj, rfl⟩)]
        exact vs_nil X 0 i
      rw [e0, Nat.zero_xor] at e
      have : mul (z i) 1 = 0 := e
      rwa [mul_one _ (hz i)] at this
/-- As many points and more sums: the first as many do. -/
theorem vs_far {z X : Nat → Nat} {n : Nat} (hz : ∀ i, z i < 256) (hX : ∀ i, X i < 256) (hu : ∀ i j, i < n → j < n → i ≠ j → X i ≠ X j) (h : ∀ k, k < n → vs z X k n = 0) (k : Nat) : vs z X k n = 0 := by
  have h0 := vand_zero n z X hz hX hu h
  rw [vs_congr (z' := fun _ => 0) (X' := X) n (fun j hj => ⟨h0 j hj, rfl⟩)]
  exact vs_nil X k n
/-- A polynomial's value as a sum of multiples of powers. -/
def sp (c : Nat → Nat) (x : Nat) : Nat → Nat
  | 0 => 0
  | n + 1 => sp c x n ^^^ mul (c n) (px x n)
theorem evn_sp {x : Nat} (hx : x < 256) {l : List Nat} (hl : AllLt l) (n : Nat) (hn : n ≤ l.length) : evn x (l.take n) = sp (fun i => l.getD i 0) x n := by
  induction n with
  | zero => rfl
  | succ n ih => rw [evn_take hx hl (by omega), ih (by omega), sp]
theorem sp_congr {c c' : Nat → Nat} {x : Nat} (n : Nat) (h : ∀ i, i < n → c i = c' i) : sp c x n = sp c' x n := by
  induction n with
  | zero => rfl
  | succ n ih => rw [sp, sp, ih (fun i hi => h i (by omega)), h n (by omega)]
theorem sp_more {c : Nat → Nat} {x : Nat} (n m : Nat) (h : ∀ i, n ≤ i → c i = 0) : sp c x (n + m) = sp c x n := by
  induction m with
  | zero => rfl
  | succ m ih => rw [← Nat.add_assoc, sp, ih, h (n + m) (by omega), zero_mul (px_lt _ _), Nat.xor_zero]
theorem evn_fun {x : Nat} (hx : x < 256) {l : List Nat} (hl : AllLt l) (n : Nat) (hn : l.length ≤ n) : evn x l = sp (fun i => l.getD i 0) x n := by
  have e := evn_sp hx hl l.length (Nat.le_refl _)
  rw [List.take_of_length_le (Nat.le_refl _)] at e
  obtain ⟨m, rfl⟩ : ∃ m, n = l.length + m := ⟨n - l.length, by omega⟩
  rw [sp_more _ m (fun i hi => by simp [List.getD_eq_getElem?_getD, hi]), e]

end Gf
end Go.Proofs.YtogopakmebiomaaDoor

namespace Go.Proofs.YtogopakmebiomaaDoor
namespace Gf

def fn (l : List Nat) (i : Nat) : Nat := l.getD i 0
theorem fn_far {l : List Nat} {i : Nat} (h : l.length ≤ i) : fn l i = 0 := by simp [fn, List.getD_eq_getElem?_getD, h]
theorem am_get {s q : List Nat} {f a : Nat} (k i : Nat) (hfit : a + k ≤ s.length) : (amTo s q f a k).getD i 0 = if a ≤ i ∧ i < a + k then s.getD i 0 ^^^ mul f (q.getD (i - a) 0) else s.getD i 0 := by
  induction k with
  | zero => rw [if_neg (by omega)]; rfl
  | succ k ih =>
    rw [amTo, xorAt]
    have ih := ih (by omega)
    by_cases e : i = a + k
    · subst e
      rw [List.getD_eq_getElem?_getD, List.getElem?_set_self (by rw [amTo_length]; omega), Option.getD_some, ih, if_neg (by omega), if_pos (by omega), Nat.add_sub_cancel_left]
    · rw [List.getD_eq_getElem?_getD, List.getElem?_set_ne (by omega), ← List.getD_eq_getElem?_getD, ih]
      by_cases h : a ≤ i ∧ i < a + k
      · rw [if_pos h, if_pos (by omega)]
      · rw [if_neg h, if_neg (by omega)]
/-- A function moved up by so many places. -/
def shf (q : Nat → Nat) (a i : Nat) : Nat := if a ≤ i then q (i - a) else 0
theorem am_fun {s q : List Nat} {f a : Nat} (hfit : a + q.length ≤ s.length) (i : Nat) : fn (amTo s q f a q.length) i = fn s i ^^^ mul f (shf (fn q) a i) := by
  unfold fn shf
  rw [am_get _ _ hfit]
  by_cases h : a ≤ i
  · rw [if_pos h]
    by_cases h2 : i < a + q.length
    · rw [if_pos ⟨h, h2⟩]
    · rw [if_neg (by omega)]
      show s.getD i 0 = s.getD i 0 ^^^ mul f (q.getD (i - a) 0)
      rw [show q.getD (i - a) 0 = 0 from fn_far (by omega), mul_zero, Nat.xor_zero]
  · rw [if_neg h, if_neg (by omega), mul_zero, Nat.xor_zero]

/-- The sum of c's i times s's k - i, for i below j. -/
def dsc (c s : Nat → Nat) (k : Nat) : Nat → Nat
  | 0 => 0
  | i + 1 => dsc c s k i ^^^ mul (c i) (s (k - i))
theorem dsc_lt {c s : Nat → Nat} {k : Nat} (hc : ∀ i, c i < 256) (j : Nat) : dsc c s k j < 256 := by
  induction j with
  | zero => show 0 < 256; omega
  | succ j ih => exact xor_lt ih (mul_lt (hc j))
theorem dsc_congr {c c' s : Nat → Nat} {k : Nat} (h : ∀ i, c i = c' i) (j : Nat) : dsc c s k j = dsc c' s k j := by
  induction j with
  | zero => rfl
  | succ j ih => rw [dsc, dsc, ih, h j]
theorem dsc_more {c s : Nat → Nat} {k : Nat} (hs : ∀ i, s i < 256) (j m : Nat) (h : ∀ i, j ≤ i → c i = 0) : dsc c s k (j + m) = dsc c s k j := by
  induction m with
  | zero => rfl
  | succ m ih => rw [← Nat.add_assoc, dsc, ih, h (j + m) (by omega), zero_mul (hs _), Nat.xor_zero]
theorem dsc_min {c s : Nat → Nat} {k : Nat} (hs : ∀ i, s i < 256) (j l : Nat) (h : ∀ i, l ≤ i → c i = 0) : dsc c s k (min j l) = dsc c s k j := by
  by_cases hjl : j ≤ l
  · rw [Nat.min_eq_left hjl]
  · rw [Nat.min_eq_right (by omega)]
    have := dsc_more (k := k) hs l (j - l) h
    rw [show l + (j - l) = j from by omega] at this
    exact this.symm

structure Bm where
  c : List Nat
  b : List Nat
  last : Nat
  m : Nat
  long : Nat
def cutNl (l : List Nat) : List Nat := l.take (cutN (ci l) l.length)
theorem cutL_nl (l : List Nat) : cutL (ci l) = ci (cutNl l) := cutL_ci l
theorem cutNl_length (l : List Nat) : (cutNl l).length = cutN (ci l) l.length := by
  have := cutN_le (ci l) l.length
  simp [cutNl]; omega
theorem cutN_above (xs : List Int) : ∀ n i, cutN xs n ≤ i → i < n → xs.getD i 0 = 0
  | 0, i, _, h => by omega
  | n + 1, i, h1, h2 => by
    rw [cutN] at h1
    split at h1
    next h =>
      by_cases e : i = n
      · subst e; exact h
      · exact cutN_above xs n i h1 (by omega)
    next => omega
theorem cutNl_fn (l : List Nat) (i : Nat) : fn (cutNl l) i = fn l i := by
  by_cases h : i < cutN (ci l) l.length
  · simp [fn, cutNl, List.getD_eq_getElem?_getD, h]
  · rw [fn_far (by rw [cutNl_length]; omega)]
    by_cases h2 : i < l.length
    · have := cutN_above (ci l) l.length i (by omega) h2
      rw [ci_getD] at this
      unfold fn
      omega
    · rw [fn_far (by omega)]
theorem cutNl_lt {l : List Nat} (h : AllLt l) : AllLt (cutNl l) := h.take _
theorem cutNl_ext {l m : List Nat} (h : ∀ i, fn l i = fn m i) : cutNl l = cutNl m := by
  have key : ∀ a b : List Nat, (∀ i, fn a i = fn b i) → (cutNl a).length ≤ (cutNl b).length := by
    intro a b hab
    have hl := cutNl_length a
    rcases cutN_last (ci a) a.length with h0 | h0
    · omega
    · rw [← hl] at h0
      by_cases hz : (cutNl a).length = 0
      · omega
      · by_cases hle : (cutNl a).length ≤ (cutNl b).length
        · exact hle
        · exfalso
          apply h0
          rw [ci_getD]
          have e : fn (cutNl b) ((cutNl a).length - 1) = 0 := fn_far (by omega)
          rw [cutNl_fn, ← hab] at e
          show ((fn a ((cutNl a).length - 1) : Nat) : Int) = 0
          rw [e]; rfl
  have h1 := key l m h
  have h2 := key m l (fun i => (h i).symm)
  apply List.ext_getElem?
  intro i
  by_cases hi : i < (cutNl l).length
  · have e : fn (cutNl l) i = fn (cutNl m) i := by rw [cutNl_fn, cutNl_fn, h i]
    have hm : i < (cutNl m).length := by omega
    simp only [fn, List.getD_eq_getElem?_getD, List.getElem?_eq_getElem hi, List.getElem?_eq_getElem hm, Option.getD_some] at e
    rw [List.getElem?_eq_getElem hi, List.getElem?_eq_getElem hm, e]
  · rw [List.getElem?_eq_none (by omega), List.getElem?_eq_none (by omega)]

def bmD (s : List Nat) (k : Nat) (q : Bm) : Nat := dsc (fn q.c) (fn s) k (q.long + 1)
def bmC (s : List Nat) (k : Nat) (q : Bm) : List Nat := amTo q.c q.b (mul (bmD s k q) (inv q.last)) q.m q.b.length
def bmStep (s : List Nat) (k : Nat) (q : Bm) : Bm :=
  if bmD s k q = 0 then ⟨q.c, q.b, q.last, q.m + 1, q.long⟩
  else if k < 2 * q.long then ⟨bmC s k q, q.b, q.last, q.m + 1, q.long⟩
  else ⟨bmC s k q, cutNl q.c, bmD s k q, 1, k + 1 - q.long⟩
def bmTo (s : List Nat) : Nat → Bm
  | 0 => ⟨1 :: List.replicate s.length 0, [1], 1, 1, 0⟩
  | k + 1 => bmStep s k (bmTo s k)
/-- What holds of the program's state ahead of step k, of n syndromes. -/
structure BmI (n k : Nat) (q : Bm) : Prop where
  len : q.c.length = n + 1
  cl : AllLt q.c
  bl : AllLt q.b
  l0 : q.last ≠ 0
  ll : q.last < 256
  m1 : 1 ≤ q.m
  lk : q.long ≤ k
  top : ∀ i, q.long < i → fn q.c i = 0
  fit : q.b.length + q.m + q.long ≤ k + 2
  one : fn q.c 0 = 1
theorem bmD_lt {s : List Nat} {k : Nat} {q : Bm} (hq : AllLt q.c) : bmD s k q < 256 := dsc_lt hq _
theorem bmC_fn {s : List Nat} {n k : Nat} {q : Bm} (h : BmI n k q) (hk : k < n) (i : Nat) : fn (bmC s k q) i = fn q.c i ^^^ mul (mul (bmD s k q) (inv q.last)) (shf (fn q.b) q.m i) :=
  am_fun (by have := h.fit; have := h.len; omega) i
theorem bm_inv {s : List Nat} (hs : AllLt s) : ∀ k, k ≤ s.length → BmI s.length k (bmTo s k)
  | 0, _ => by
    refine ⟨by simp [bmTo], ?_, ?_, by show (1 : Nat) ≠ 0; omega, by show (1 : Nat) < 256; omega, Nat.le_refl _, Nat.le_refl _, ?_, by simp [bmTo], rfl⟩
    · intro i
      cases i with
      | zero => show 1 < 256; omega
      | succ i => exact allLt_zeros s.length i
    · intro i
      cases i with
      | zero => show 1 < 256; omega
      | succ i => show 0 < 256; omega
    · intro i hi
      cases i with
      | zero => exact absurd hi (Nat.lt_irrefl _)
      | succ i => simp [fn, bmTo, List.getD_eq_getElem?_getD, List.getElem?_replicate]; split <;> simp
  | k + 1, hk => by
    have h := bm_inv hs k (by omega)
    rw [bmTo]
    generalize bmTo s k = q at h
    have hC : AllLt (bmC s k q) := amTo_lt h.cl (mul_lt (bmD_lt h.cl)) _
    have hCl : (bmC s k q).length = s.length + 1 := by unfold bmC; rw [amTo_length]; exact h.len
    have hfit := h.fit
    have hm1 := h.m1
    have hlk := h.lk
    have h1 : fn (bmC s k q) 0 = 1 := by
      rw [bmC_fn h hk, h.one, shf, if_neg (by omega), mul_zero, Nat.xor_zero]
    have htop : ∀ i, q.long < i → k + 1 - q.long < i → fn (bmC s k q) i = 0 := by
      intro i h2 h3
      rw [bmC_fn h hk, h.top i h2, shf]
      split
      · rw [fn_far (by omega), mul_zero, Nat.xor_zero]
      · rw [mul_zero, Nat.xor_zero]
    unfold bmStep
    split
    · exact ⟨h.len, h.cl, h.bl, h.l0, h.ll, by show 1 ≤ q.m + 1; omega, by show q.long ≤ k + 1; omega, h.top, by show q.b.length + (q.m + 1) + q.long ≤ k + 1 + 2; omega, h.one⟩
    · next hd =>
      split
      · next h2 => exact ⟨hCl, hC, h.bl, h.l0, h.ll, by show 1 ≤ q.m + 1; omega, by show q.long ≤ k + 1; omega, fun i hi => htop i hi (by have : q.long < i := hi; omega), by show q.b.length + (q.m + 1) + q.long ≤ k + 1 + 2; omega, h1⟩
      · next h2 =>
        refine ⟨hCl, hC, cutNl_lt h.cl, hd, bmD_lt h.cl, Nat.le_refl _, by show k + 1 - q.long ≤ k + 1; omega, fun i hi => htop i (by have : k + 1 - q.long < i := hi; omega) hi, ?_, h1⟩
        show (cutNl q.c).length + 1 + (k + 1 - q.long) ≤ k + 1 + 2
        have : cutN (ci q.c) q.c.length ≤ q.long + 1 := cutN_bound _ (fun i hi _ => by
          rw [ci_getD]
          have := h.top i (by omega)
          unfold fn at this
          rw [this]; rfl)
        rw [cutNl_length]
        omega

def smD (s : List Nat) (k : Nat) (q : Bm) : Nat := dsc (fn q.c) (fn s) k (min (q.long + 1) q.c.length)
/-- A list with noughts behind it, as many as are wanted. -/
def padTo (p : List Nat) (n : Nat) : List Nat := p ++ List.replicate (n - p.length) 0
theorem padTo_fn (p : List Nat) (n i : Nat) : fn (padTo p n) i = fn p i := by
  unfold fn padTo
  simp only [List.getD_eq_getElem?_getD]
  by_cases h : i < p.length
  · rw [List.getElem?_append_left h]
  · rw [List.getElem?_append_right (by omega), List.getElem?_replicate, List.getElem?_eq_none (by omega)]
    split <;> rfl
theorem padTo_length (p : List Nat) (n : Nat) : (padTo p n).length = max p.length n := by simp [padTo]; omega
theorem padTo_lt {p : List Nat} (h : AllLt p) (n : Nat) : AllLt (padTo p n) := fun i => by
  have := padTo_fn p n i
  unfold fn at this
  rw [this]
  exact h i
def smAdd (p q : List Nat) (f m : Nat) : List Nat := amTo (padTo p (q.length + m)) q f m q.length
theorem smAdd_fn {p q : List Nat} {f m : Nat} (i : Nat) : fn (smAdd p q f m) i = fn p i ^^^ mul f (shf (fn q) m i) := by
  unfold smAdd
  rw [am_fun (by rw [padTo_length]; omega), padTo_fn]
def smStep (s : List Nat) (k : Nat) (q : Bm) : Bm :=
  if smD s k q = 0 then ⟨q.c, q.b, q.last, q.m + 1, q.long⟩
  else if 2 * q.long ≤ k then ⟨smAdd q.c q.b (mul (smD s k q) (inv q.last)) q.m, q.c, smD s k q, 1, k + 1 - q.long⟩
  else ⟨smAdd q.c q.b (mul (smD s k q) (inv q.last)) q.m, q.b, q.last, q.m + 1, q.long⟩
def smTo (s : List Nat) : Nat → Bm
  | 0 => ⟨[1], [1], 1, 1, 0⟩
  | k + 1 => smStep s k (smTo s k)
structure SmI (k : Nat) (q : Bm) : Prop where
  cl : AllLt q.c
  bl : AllLt q.b
  ll : q.last < 256
  lc : 1 ≤ q.c.length
  lc2 : q.c.length ≤ k + 1
  lb : q.b.length + q.m ≤ k + 2
  m1 : 1 ≤ q.m
  lk : q.long ≤ k
theorem smD_lt {s : List Nat} {k : Nat} {q : Bm} (hq : AllLt q.c) : smD s k q < 256 := dsc_lt hq _
theorem smAdd_length (p q : List Nat) (f m : Nat) : (smAdd p q f m).length = max p.length (q.length + m) := by unfold smAdd; rw [amTo_length, padTo_length]
theorem sm_inv (s : List Nat) : ∀ k, SmI k (smTo s k)
  | 0 => by
    have one : AllLt [1] := by
      intro i
      cases i with
      | zero => show 1 < 256; omega
      | succ i => show 0 < 256; omega
    exact ⟨one, one, by show (1 : Nat) < 256; omega, Nat.le_refl _, Nat.le_refl _, Nat.le_refl _, Nat.le_refl _, Nat.le_refl _⟩
  | k + 1 => by
    have h := sm_inv s k
    rw [smTo]
    generalize smTo s k = q at h
    obtain ⟨h1, h2, h3, h4, h5, h6, h7, h8⟩ := h
    have hC : AllLt (smAdd q.c q.b (mul (smD s k q) (inv q.last)) q.m) := amTo_lt (padTo_lt h1 _) (mul_lt (smD_lt h1)) _
    have hl := smAdd_length q.c q.b (mul (smD s k q) (inv q.last)) q.m
    unfold smStep
    split
    · exact ⟨h1, h2, h3, h4, by show q.c.length ≤ k + 1 + 1; omega, by show q.b.length + (q.m + 1) ≤ k + 1 + 2; omega, by show 1 ≤ q.m + 1; omega, by show q.long ≤ k + 1; omega⟩
    · split
      · exact ⟨hC, h1, smD_lt h1, by show 1 ≤ (smAdd _ _ _ _).length; omega, by show (smAdd _ _ _ _).length ≤ k + 1 + 1; omega, by show q.c.length + 1 ≤ k + 1 + 2; omega, Nat.le_refl _, by show k + 1 - q.long ≤ k + 1; omega⟩
      · exact ⟨hC, h2, h3, by show 1 ≤ (smAdd _ _ _ _).length; omega, by show (smAdd _ _ _ _).length ≤ k + 1 + 1; omega, by show q.b.length + (q.m + 1) ≤ k + 1 + 2; omega, by show 1 ≤ q.m + 1; omega, by show q.long ≤ k + 1; omega⟩
structure BmR (p q : Bm) : Prop where
  c : ∀ i, fn p.c i = fn q.c i
  b : ∀ i, fn p.b i = fn q.b i
  last : p.last = q.last
  m : p.m = q.m
  long : p.long = q.long
theorem bm_same {s : List Nat} (hs : AllLt s) : ∀ k, k ≤ s.length → BmR (bmTo s k) (smTo s k)
  | 0, _ => by
    refine ⟨fun i => ?_, fun i => rfl, rfl, rfl, rfl⟩
    cases i with
    | zero => rfl
    | succ i =>
      show fn (1 :: List.replicate s.length 0) (i + 1) = fn [1] (i + 1)
      simp [fn, List.getD_eq_getElem?_getD, List.getElem?_replicate]
      split <;> simp
  | k + 1, hk => by
    have h := bm_same hs k (by omega)
    have hi := bm_inv hs k (by omega)
    rw [bmTo, smTo]
    generalize bmTo s k = p at h hi
    generalize smTo s k = q at h
    obtain ⟨hc, hb, hla, hm, hlo⟩ := h
    have hd : bmD s k p = smD s k q := by
      unfold bmD smD
      rw [dsc_min (s := fn s) hs _ _ (fun i hi => fn_far hi), hlo]
      exact dsc_congr hc _
    have hC : ∀ i, fn (bmC s k p) i = fn (smAdd q.c q.b (mul (smD s k q) (inv q.last)) q.m) i := by
      intro i
      rw [bmC_fn hi hk, smAdd_fn, hd, hla, hm, hc]
      congr 2
      unfold shf
      split
      · exact hb _
      · rfl
    unfold bmStep smStep
    rw [hd, hlo]
    split
    · exact ⟨hc, hb, hla, by show p.m + 1 = q.m + 1; rw [hm], rfl⟩
    · by_cases h2 : 2 * q.long ≤ k
      · rw [if_neg (by omega), if_pos h2]
        exact ⟨hC, fun i => by show fn (cutNl p.c) i = fn q.c i; rw [cutNl_fn, hc], rfl, rfl, rfl⟩
      · rw [if_pos (by omega), if_neg h2]
        exact ⟨hC, hb, hla, by show p.m + 1 = q.m + 1; rw [hm], rfl⟩
/-- The rule that both tell. -/
def locN (s : List Nat) : List Nat := cutNl (bmTo s s.length).c
theorem loc_same {s : List Nat} (hs : AllLt s) : cutNl (smTo s s.length).c = locN s := (cutNl_ext (bm_same hs s.length (Nat.le_refl _)).c).symm

end Gf
end Go.Proofs.YtogopakmebiomaaDoor

namespace Go.Proofs.YtogopakmebiomaaDoor
namespace Gf

/-- 2 to the p, and its inverse. -/
def p2 (p : Nat) : Nat := pow 2 p
def ip (p : Nat) : Nat := inv (pow 2 p)
theorem p2_tab : allB 64 (fun p => p2 p != 0 && (p2 p == px 2 p)) = true := by decide +kernel
theorem p2_ne {p : Nat} (h : p < 64) : p2 p ≠ 0 := by
  have := allB_of p2_tab p h
  simp at this
  exact this.1
theorem p2_px {p : Nat} (h : p < 64) : p2 p = px 2 p := by
  have := allB_of p2_tab p h
  simp at this
  exact this.2
theorem p2_lt (p : Nat) : p2 p < 256 := pow_lt _ _
theorem ip_lt (p : Nat) : ip p < 256 := inv_lt _
theorem p2_ip {p : Nat} (h : p < 64) : mul (p2 p) (ip p) = 1 := mul_inv _ (p2_lt p) (p2_ne h)
theorem p2_inj_tab : allB 24 (fun p => allB 24 (fun q => p == q || p2 p != p2 q)) = true := by decide +kernel
theorem p2_inj {p q : Nat} (hp : p < 24) (hq : q < 24) (h : p2 p = p2 q) : p = q := by
  have := allB_of (allB_of p2_inj_tab p hp) q hq
  simp [h] at this
  exact this
theorem cross_ne {p q : Nat} (hp : p < 24) (hq : q < 24) (h : p ≠ q) : mul (p2 p) (ip q) ^^^ 1 ≠ 0 := by
  intro e
  have e1 := xor_zero_eq e
  apply h
  apply p2_inj hp hq
  have e2 : mul (mul (p2 p) (ip q)) (p2 q) = mul 1 (p2 q) := by rw [e1]
  rw [mul_assoc _ _ _ (p2_lt p) (ip_lt q) (p2_lt q), mul_comm (ip q) _ (ip_lt q) (p2_lt q), p2_ip (by omega), mul_one _ (p2_lt p), one_mul _ (p2_lt q)] at e2
  exact e2

/-- What a place divides by. -/
def dvP (p : Nat) : List Int := [1, ((p2 p : Nat) : Int)]
theorem dvP_good {p : Nat} (h : p < 64) : goodP (dvP p) = true := by
  have h1 := p2_lt p
  have h2 := p2_ne h
  simp [goodP, dvP, elOk]
  omega
theorem dvP_ev (p x : Nat) (hx : x < 256) : ev x (dvP p) = mul (p2 p) x ^^^ 1 := by
  show mul (mul 0 x ^^^ ((p2 p : Nat) : Int).toNat) x ^^^ (1 : Int).toNat = _
  rw [zero_mul hx, Nat.zero_xor, Int.toNat_natCast]
  rfl

/-- The places below L whose inverted points are roots. -/
def plcN (c : List Int) : Nat → List Int
  | 0 => []
  | p + 1 => if ev (ip p) c = 0 then plcN c p ++ [(p : Int)] else plcN c p
theorem plcN_yes {c : List Int} {p : Nat} (h : ev (ip p) c = 0) : plcN c (p + 1) = plcN c p ++ [(p : Int)] := by rw [plcN, if_pos h]
theorem plcN_no {c : List Int} {p : Nat} (h : ¬ ev (ip p) c = 0) : plcN c (p + 1) = plcN c p := by rw [plcN, if_neg h]
theorem plcN_le (c : List Int) (L : Nat) : (plcN c L).length ≤ L := by
  induction L with
  | zero => exact Nat.le_refl _
  | succ L ih =>
    rw [plcN]
    split
    · rw [List.length_append]; show _ + 1 ≤ _; omega
    · omega
theorem plcN_same {c : List Int} {p : Nat} : ∀ m, (∀ j, p ≤ j → j < p + m → ¬ ev (ip j) c = 0) → plcN c (p + m) = plcN c p
  | 0, _ => rfl
  | m + 1, h => by rw [← Nat.add_assoc, plcN_no (h (p + m) (by omega) (by omega)), plcN_same m (fun j h1 h2 => h j h1 (by omega))]

/-- What is left to divide, behind the places below p: roots from there on are the rule's. -/
structure Lft (c r : List Int) (p : Nat) : Prop where
  good : goodP r = true
  pos : 1 ≤ r.length
  sum : r.length + (plcN c p).length = c.length
  iff : ∀ j, p ≤ j → j < 24 → (ev (ip j) c = 0 ↔ ev (ip j) r = 0)
theorem Lft.start {c : List Int} (h : goodP c = true) (h1 : 1 ≤ c.length) : Lft c c 0 := ⟨h, h1, by simp [plcN], fun _ _ _ => Iff.rfl⟩
theorem div_root {r : List Int} {p : Nat} (hr : goodP r = true) (h2 : 2 ≤ r.length) (hp : p < 24) :
    (divR r (dvP p)).2.2 = true ∧ (divR r (dvP p)).1.length = r.length - 1 ∧ goodP (divR r (dvP p)).1 = true ∧ ((divR r (dvP p)).2.1.length = 0 ↔ ev (ip p) r = 0) ∧
      ((divR r (dvP p)).2.1.length = 0 → ∀ j, j < 24 → j ≠ p → (ev (ip j) r = 0 ↔ ev (ip j) (divR r (dvP p)).1 = 0)) := by
  have hd := dvP_good (p := p) (by omega)
  have hl : (dvP p).length = 2 := rfl
  have hy := divR_yes hr hd (by rw [hl]; omega) (by rw [hl]; omega)
  have hok : (divR r (dvP p)).2.2 = true := by rw [hy]
  obtain ⟨_, _, hq, hrest, hlt, hev⟩ := div_facts hok
  have hql : (divR r (dvP p)).1.length = r.length - 1 := by
    rw [hy]
    show (ci _).length = _
    rw [ci_length, dv_len2, hl]
    omega
  have hrl : (divR r (dvP p)).2.1.length < 2 := hlt
  refine ⟨hok, hql, hq, ?_, ?_⟩
  · have e := hev (ip p) (ip_lt p)
    rw [dvP_ev _ _ (ip_lt p), p2_ip (by omega), Nat.xor_self, zero_mul (by rw [ev_good hq]; exact evn_lt (nat_ltp (goodP_mem hq))), Nat.zero_xor] at e
    rw [← e]
    generalize hR : (divR r (dvP p)).2.1 = R at *
    match R, hrest, hrl with
    | [], _, _ => simp [ev]
    | [v], hg, _ =>
      have h0 := goodP_last hg (by simp)
      have hv := goodP_all hg 0 (by simp)
      simp only [List.length_cons, List.length_nil, Nat.zero_add, Nat.sub_self] at h0
      have h0' : v ≠ 0 := h0
      have hv' : 0 ≤ v ∧ v ≤ 255 := hv
      constructor
      · intro h; simp at h
      · intro h
        exfalso
        have e3 : mul 0 (ip p) ^^^ v.toNat = 0 := h
        rw [zero_mul (ip_lt p), Nat.zero_xor] at e3
        omega
    | _ :: _ :: _, _, h => exact absurd h (by simp)
  · intro h0 j hj hne
    have e := hev (ip j) (ip_lt j)
    have hR : (divR r (dvP p)).2.1 = [] := List.eq_nil_of_length_eq_zero h0
    rw [hR, dvP_ev _ _ (ip_lt j)] at e
    have e' : mul (mul (p2 p) (ip j) ^^^ 1) (ev (ip j) (divR r (dvP p)).1) ^^^ 0 = ev (ip j) r := e
    rw [Nat.xor_zero] at e'
    rw [← e']
    constructor
    · intro h
      rcases mul_eq_zero _ _ (xor_lt (mul_lt (p2_lt p)) (by omega)) (by rw [ev_good hq]; exact evn_lt (nat_ltp (goodP_mem hq))) h with h | h
      · exact absurd h (cross_ne hp hj (fun e => hne e.symm))
      · exact h
    · intro h
      rw [h, mul_zero]
theorem Lft.skip {c r : List Int} {p : Nat} (h : Lft c r p) (hp : p < 24) (h0 : ¬ ev (ip p) r = 0) : Lft c r (p + 1) ∧ plcN c (p + 1) = plcN c p := by
  have e := plcN_no (c := c) (p := p) (fun e => h0 ((h.iff p (Nat.le_refl _) hp).1 e))
  exact ⟨⟨h.good, h.pos, by rw [e]; exact h.sum, fun j h1 h2 => h.iff j (by omega) h2⟩, e⟩
theorem Lft.take {c r : List Int} {p : Nat} (h : Lft c r p) (hp : p < 24) (h2 : 2 ≤ r.length) (h0 : (divR r (dvP p)).2.1.length = 0) : Lft c (divR r (dvP p)).1 (p + 1) ∧ plcN c (p + 1) = plcN c p ++ [(p : Int)] := by
  obtain ⟨_, hl, hg, hi, hj⟩ := div_root h.good h2 hp
  have e := plcN_yes (c := c) (p := p) ((h.iff p (Nat.le_refl _) hp).2 (hi.1 h0))
  refine ⟨⟨hg, by omega, ?_, fun j h1 h3 => (h.iff j (by omega) h3).trans (hj h0 j h3 (by omega))⟩, e⟩
  rw [e, List.length_append, hl]
  have := h.sum
  show r.length - 1 + (_ + 1) = _
  omega
def rtR (c : List Int) (L : Nat) : List Int × Bool := if (plcN c L).length = c.length - 1 then (plcN c L, true) else ([], false)
theorem Lft.done {c r : List Int} {p L : Nat} (h : Lft c r p) (h1 : r.length = 1) (hpL : p ≤ L) (hL : L ≤ 24) : rtR c L = (plcN c p, true) := by
  have hr : ∀ x, x < 256 → ¬ ev x r = 0 := by
    intro x hx
    have hg := h.good
    match r, h1, hg with
    | [v], _, hg =>
      have h0 : v ≠ 0 := goodP_last hg (by simp)
      have hv : 0 ≤ v ∧ v ≤ 255 := goodP_all hg 0 (by simp)
      show ¬ mul 0 x ^^^ v.toNat = 0
      rw [zero_mul hx, Nat.zero_xor]
      omega
  have e := plcN_same (c := c) (p := p) (L - p) (fun j h3 h4 => fun e => hr _ (ip_lt j) ((h.iff j h3 (by omega)).1 e))
  rw [show p + (L - p) = L from by omega] at e
  unfold rtR
  rw [e, if_pos (by have := h.sum; omega)]
theorem Lft.fail {c r : List Int} {L : Nat} (h : Lft c r L) (h1 : 2 ≤ r.length) : rtR c L = ([], false) := by
  unfold rtR
  rw [if_neg (by have := h.sum; omega)]

end Gf
end Go.Proofs.YtogopakmebiomaaDoor

namespace Go.Proofs.YtogopakmebiomaaDoor
open Go.RowKit

def tot (m : List (List Int)) : Nat := (m.map List.length).sum
theorem tot_nil : tot [] = 0 := rfl
theorem tot_take_succ (m : List (List Int)) (k : Nat) (h : k < m.length) : tot (m.take (k + 1)) = tot (m.take k) + (m.getD k []).length := by
  unfold tot
  rw [List.take_succ_eq_append_getElem h, List.map_append, List.sum_append]
  simp [List.getD_eq_getElem?_getD, List.getElem?_eq_getElem h]
theorem tot_app (a b : List (List Int)) : tot (a ++ b) = tot a + tot b := by simp [tot]
theorem tot_take_le (m : List (List Int)) (k : Nat) : tot (m.take k) ≤ tot m := by
  have := congrArg tot (List.take_append_drop k m)
  rw [tot_app] at this
  omega
theorem tot_row_le (m : List (List Int)) (k : Nat) (h : k < m.length) : tot (m.take k) + (m.getD k []).length ≤ tot m := by
  rw [← tot_take_succ m k h]; exact tot_take_le m (k + 1)
theorem Own.shape {w : World} {base : Nat} {v : Value} {xs : List Int} (h : Own w base v xs) : ∃ a n c, v = .slice a n c := by
  rcases h.2 with ⟨rfl, _⟩ | ⟨g, cap, cur, rfl, _⟩
  · exact ⟨_, _, _, rfl⟩
  · exact ⟨_, _, _, rfl⟩

/-- 'make([][]int, n)': n rows of nothing of the call's own, in the next block. -/
theorem wpList_make_rows {w : World} {ops : Array Oper} {rest : List Oper} {o : Oper} {a : Act} {Q : Exit → Act → World → Prop} (hg : o.guard = none) (l c : Operand) (hop : o.op = Op.makeSlice 46 l c)
    (L C : Int) (n : Nat) (hl : a.eval l = .int .i64 L) (hc : a.eval c = .int .i64 C) (hL : L = (n : Int)) (hC : C = (n : Int)) (hn : n ≤ 1048576)
    (h : ∀ w', MatV w' w.heap.size w'.heap.size (.slice (some ⟨w.heap.size, 0, none⟩) n n) (List.replicate n nilRow) (List.replicate n []) → w.grownBy w' none → wpList Tryd.prog ops Q rest (a.put o.dst (.slice (some ⟨w.heap.size, 0, none⟩) n n)) w') : wpList Tryd.prog ops Q (o :: rest) a w := by
  obtain ⟨i0, hi, hz0, hz1, hz2⟩ := info_parts infoRow
  refine wpList_make_full w hg l c _ hop w.heap.size 22 i0 (.slice none 0 0) 1 Tryd.underlying46 hi hz0 hz1 _ _ L C n hl hc hL hC (by rw [hz2]; omega) (by unfold maxLen; omega) (Nat.le_refl _) ?_
  intro w' ho hg'
  refine h w' ?_ hg'
  have e : (madeCells (Value.slice none 0 0).cells (n * 1)).toList = List.replicate n nilRow := by
    rw [Nat.mul_one]; exact toList_madeCells_one _ n
  rw [e] at ho
  have g1 : ∀ i, i < n → (List.replicate n nilRow).getD i nilRow = nilRow := fun i hi => by simp [List.getD_eq_getElem?_getD, hi]
  refine ⟨by simp, by rw [List.length_replicate]; exact ho, ?_, fun k hk => (World.ownsRow.lt ho k hk).2, ?_, ?_⟩
  · intro i hi
    rw [List.length_replicate] at hi
    rw [g1 i hi]
    have g2 : (List.replicate n ([] : List Int)).getD i [] = [] := by simp [List.getD_eq_getElem?_getD, hi]
    rw [g2]
    exact World.ownsRow_nil _ _ _ _
  · intro i k hi hk
    rw [List.length_replicate] at hi
    rw [g1 i hi] at hk
    simp [Value.ownBlock] at hk
  · intro i j hi hj _
    rw [List.length_replicate] at hi
    rw [g1 i hi]
    exact .inl rfl

/-- The first k rows; nothing in the others. -/
def toTo (m : List (List Int)) (k : Nat) : List (List Int) := m.take k ++ List.replicate (m.length - k) []
theorem toTo_length (m : List (List Int)) (k : Nat) (h : k ≤ m.length) : (toTo m k).length = m.length := by simp [toTo]; omega
theorem toTo_step (m : List (List Int)) (k : Nat) (h : k < m.length) : (toTo m k).set k (m.getD k []) = toTo m (k + 1) := by
  have e1 : (m.take k).length = k := by simp; omega
  unfold toTo
  rw [List.set_append_right _ _ (by omega), e1, Nat.sub_self]
  obtain ⟨j, hm⟩ : ∃ j, m.length - k = j + 1 := ⟨m.length - k - 1, by omega⟩
  have hm2 : m.length - (k + 1) = j := by omega
  rw [hm, hm2, List.replicate_succ, List.set_cons_zero, List.take_succ_eq_append_getElem h, List.append_assoc]
  simp only [List.getD_eq_getElem?_getD, List.getElem?_eq_getElem h, Option.getD_some, List.singleton_append]
theorem toTo_end (m : List (List Int)) : toTo m m.length = m := by simp [toTo]
theorem toTo_zero (m : List (List Int)) : toTo m 0 = List.replicate m.length [] := by simp [toTo]

set_option maxRecDepth 100000 in
set_option maxHeartbeats 400000 in
theorem eqIntS_quiet (v1 v2 : Value) (xs : List Int) (w : World) (h1 : Rd w v1 xs) (h2 : Rd w v2 xs) :
    Calls Tryd.prog 15 #[v1, v2] w fun e w' => e = .returned (.bool true) ∧ ∃ n, w' = w.drewN n := by
  obtain ⟨a1, c1, rfl, _, m1, k1⟩ := h1
  obtain ⟨a2, c2, rfl, _, _, k2⟩ := h2
  have hm : xs.length ≤ maxLen := by omega
  unfold maxLen at hm
  have K := hide k1
  have L := hide k2
  clear k1 k2 m1
  go_enter Tryd.func15, Tryd.ntmps15
  go_wp2
  go_loopw [5] (fun vi wr => ∃ k n : Nat, k ≤ xs.length ∧ vi = .int .i64 k ∧ wr = w.drewN n) (fun vi _ => xs.length - (intOf vi).toNat)
  case atStart => exact ⟨0, 0, Nat.zero_le _, rfl, rfl⟩
  case round =>
    obtain ⟨k, n, hk, rfl, rfl⟩ := hrel
    by_cases hlt : k < xs.length
    · rcases K.out with h3 | ⟨b, off, rfl, hbs, hc⟩
      · subst h3; simp at hlt
      rcases L.out with h3 | ⟨b', off', rfl, hbs', hc'⟩
      · subst h3; simp at hlt
      have e1 : w.cell? ⟨b, off + k, none⟩ = some (.int .i64 (xs.getD k 0)) := hc k hlt
      have e2 : w.cell? ⟨b', off' + k, none⟩ = some (.int .i64 (xs.getD k 0)) := hc' k hlt
      have hlt' : (k : Int) < (xs.length : Int) := by omega
      clear hc hc'
      go_wp2
      go_quiet (fail)
      go_wp2
      go_roundw
      case rel => exact ⟨k + 1, _, by omega, by go_num, rfl⟩
      case measure => simp [intOf]; omega
    · obtain rfl : k = xs.length := by omega
      go_wp2
      go_ret
      exact ⟨rfl, _, rfl⟩
theorem quiet_more {P : Program} {f : FuncId} {args : Array Value} {w : World} {n : Nat} {v : Value}
    (h : Calls P f args (w.drewN n) fun e w' => e = .returned v ∧ ∃ m, w' = (w.drewN n).drewN m) : Calls P f args (w.drewN n) fun e w'' => e = .returned v ∧ ∃ m, w'' = w.drewN m :=
  h.mono fun _ _ ⟨he, m, hm⟩ => ⟨he, n + m, by rw [hm, World.drewN_drewN]⟩
theorem Rd.drewN {w : World} {v : Value} {xs : List Int} (h : Rd w v xs) (n : Nat) : Rd (w.drewN n) v xs := h.below (below_drewN' n)

/-- The rows' marks: each row's numbers go on where the row ahead of it stopped. -/
def mkM (k : Int) (m : List (List Int)) (j : Nat) : List Int := marks (k + tot (m.take j)) (m.getD j []).length
def mkToM (k : Int) (m : List (List Int)) (i : Nat) : List (List Int) := (List.range i).map (mkM k m) ++ m.drop i
def marksM (k : Int) (m : List (List Int)) : List (List Int) := (List.range m.length).map (mkM k m)
theorem mkToM_length (k : Int) (m : List (List Int)) (i : Nat) (h : i ≤ m.length) : (mkToM k m i).length = m.length := by simp [mkToM]; omega
theorem mkToM_get (k : Int) (m : List (List Int)) (i : Nat) : (mkToM k m i).getD i [] = m.getD i [] := by
  simp only [mkToM, List.getD_eq_getElem?_getD]
  rw [List.getElem?_append_right (by simp)]
  simp
theorem mkToM_step (k : Int) (m : List (List Int)) (i : Nat) (h : i < m.length) : (mkToM k m i).set i (mkM k m i) = mkToM k m (i + 1) := by
  unfold mkToM
  rw [List.set_append_right _ _ (by simp), List.length_map, List.length_range, Nat.sub_self, List.drop_eq_getElem_cons h, List.set_cons_zero]
  simp [List.range_succ]
theorem mkToM_end (k : Int) (m : List (List Int)) : mkToM k m m.length = marksM k m := by simp [mkToM, marksM]
theorem marksM_length (k : Int) (m : List (List Int)) : (marksM k m).length = m.length := by simp [marksM]
theorem marksM_get (k : Int) (m : List (List Int)) (i : Nat) (h : i < m.length) : (marksM k m).getD i [] = mkM k m i := by simp [marksM, h]

end Go.Proofs.YtogopakmebiomaaDoor
