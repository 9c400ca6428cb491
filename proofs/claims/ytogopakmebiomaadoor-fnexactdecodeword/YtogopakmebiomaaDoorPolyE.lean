/-
  Values of polynomials: of sums, products and divisions; that what comes out are polynomials, and that a rest is shorter than what divides. Plain mathematics. No condition.
-/
import Derived.Test.YtogopakmebiomaaDoorDivR
namespace Go.Proofs.YtogopakmebiomaaDoor
namespace Gf

def evn (x : Nat) : List Nat → Nat
  | [] => 0
  | c :: cs => mul (evn x cs) x ^^^ c
theorem ev_ci (x : Nat) (l : List Nat) : ev x (ci l) = evn x l := by
  induction l with
  | nil => rfl
  | cons c cs ih =>
    show mul (ev x (ci cs)) x ^^^ _ = _
    rw [ih]; rfl
theorem AllLt.head {c : Nat} {cs : List Nat} (h : AllLt (c :: cs)) : c < 256 := by simpa using h 0
theorem AllLt.tail {c : Nat} {cs : List Nat} (h : AllLt (c :: cs)) : AllLt cs := fun i => by simpa using h (i + 1)
theorem AllLt.take {l : List Nat} (h : AllLt l) (n : Nat) : AllLt (l.take n) := by
  intro i
  have := h i
  simp only [List.getD_eq_getElem?_getD, List.getElem?_take] at *
  split
  · exact this
  · simp
theorem evn_lt {x : Nat} : ∀ {l : List Nat}, AllLt l → evn x l < 256
  | [], _ => by simp [evn]
  | _ :: _, h => Nat.xor_lt_two_pow (n := 8) (mul_lt (evn_lt h.tail)) h.head
def px (x : Nat) : Nat → Nat
  | 0 => 1
  | i + 1 => mul (px x i) x
theorem px_lt (x i : Nat) : px x i < 256 := by
  induction i with
  | zero => show 1 < 256; omega
  | succ i ih => exact mul_lt ih
theorem px_add {x : Nat} (hx : x < 256) (a k : Nat) : px x (a + k) = mul (px x a) (px x k) := by
  induction k with
  | zero => exact (mul_one _ (px_lt x a)).symm
  | succ k ih => rw [← Nat.add_assoc, px, ih, mul_assoc _ _ _ (px_lt x a) (px_lt x k) hx]; rfl
theorem mul4 {a b c d : Nat} (ha : a < 256) (hb : b < 256) (hc : c < 256) (hd : d < 256) : mul (mul a b) (mul c d) = mul (mul a c) (mul b d) := by
  rw [mul_assoc a b _ ha hb (mul_lt hc), ← mul_assoc b c d hb hc hd, mul_comm b c hb hc, mul_assoc c b d hc hb hd, ← mul_assoc a c _ ha hc (mul_lt hb)]
theorem evn_xorAt {x : Nat} (hx : x < 256) : ∀ (l : List Nat) (i d : Nat), AllLt l → d < 256 → i < l.length → evn x (xorAt l i d) = evn x l ^^^ mul d (px x i)
  | [], i, d, _, _, h => by simp at h
  | c :: cs, 0, d, _, hd, _ => by
    show mul (evn x cs) x ^^^ (c ^^^ d) = (mul (evn x cs) x ^^^ c) ^^^ mul d 1
    rw [mul_one d hd, Nat.xor_assoc]
  | c :: cs, i + 1, d, hl, hd, h => by
    have ih := evn_xorAt hx cs i d hl.tail hd (by simpa using h)
    have e : xorAt (c :: cs) (i + 1) d = c :: xorAt cs i d := by simp [xorAt]
    rw [e]
    show mul (evn x (xorAt cs i d)) x ^^^ c = (mul (evn x cs) x ^^^ c) ^^^ mul d (mul (px x i) x)
    rw [ih, mul_xor_a _ _ _ (evn_lt hl.tail) (mul_lt hd), mul_assoc _ _ _ hd (px_lt x i) hx, Nat.xor_assoc, Nat.xor_comm (mul d _) c, ← Nat.xor_assoc]
theorem evn_snoc {x : Nat} (hx : x < 256) : ∀ (l : List Nat) (c : Nat), AllLt l → c < 256 → evn x (l ++ [c]) = evn x l ^^^ mul c (px x l.length)
  | [], c, _, hc => by
    show mul 0 x ^^^ c = 0 ^^^ mul c 1
    rw [zero_mul hx, mul_one c hc]
  | d :: ds, c, hl, hc => by
    have ih := evn_snoc hx ds c hl.tail hc
    show mul (evn x (ds ++ [c])) x ^^^ d = (mul (evn x ds) x ^^^ d) ^^^ mul c (mul (px x ds.length) x)
    rw [ih, mul_xor_a _ _ _ (evn_lt hl.tail) (mul_lt hc), mul_assoc _ _ _ hc (px_lt x _) hx, Nat.xor_assoc, Nat.xor_comm (mul c _) d, ← Nat.xor_assoc]
theorem evn_take {x : Nat} (hx : x < 256) {l : List Nat} (hl : AllLt l) {k : Nat} (hk : k < l.length) : evn x (l.take (k + 1)) = evn x (l.take k) ^^^ mul (l.getD k 0) (px x k) := by
  have e : l.take (k + 1) = l.take k ++ [l.getD k 0] := by
    rw [List.take_succ_eq_append_getElem hk, List.getD_eq_getElem?_getD, List.getElem?_eq_getElem hk, Option.getD_some]
  rw [e, evn_snoc hx _ _ (hl.take k) (hl k), List.length_take, Nat.min_eq_left (Nat.le_of_lt hk)]
theorem evn_am {x : Nat} (hx : x < 256) {s q : List Nat} {f a : Nat} (hs : AllLt s) (hq : AllLt q) (hf : f < 256) (k : Nat) (hk : k ≤ q.length) (hfit : a + k ≤ s.length) :
    evn x (amTo s q f a k) = evn x s ^^^ mul (mul f (px x a)) (evn x (q.take k)) := by
  induction k with
  | zero => show evn x s = evn x s ^^^ mul _ 0; rw [mul_zero, Nat.xor_zero]
  | succ k ih =>
    rw [amTo, evn_xorAt hx _ _ _ (amTo_lt hs hf k) (mul_lt hf) (by rw [amTo_length]; omega), ih (by omega) (by omega), evn_take hx hq (by omega), mul_xor_b, px_add hx, mul4 hf (hq k) (px_lt x a) (px_lt x k), Nat.xor_assoc]
theorem evn_zeros {x : Nat} (hx : x < 256) (n : Nat) : evn x (List.replicate n 0) = 0 := by
  induction n with
  | zero => rfl
  | succ n ih =>
    show mul (evn x (List.replicate n 0)) x ^^^ 0 = 0
    rw [ih, zero_mul hx]; rfl
theorem evn_mp {x : Nat} (hx : x < 256) {p q s0 : List Nat} (hp : AllLt p) (hq : AllLt q) (hs : AllLt s0) (k : Nat) (hk : k ≤ p.length) (hfit : p.length + q.length ≤ s0.length + 1) :
    evn x (mp p q s0 k) = evn x s0 ^^^ mul (evn x (p.take k)) (evn x q) := by
  induction k with
  | zero => show evn x s0 = evn x s0 ^^^ mul 0 _; rw [zero_mul (evn_lt hq), Nat.xor_zero]
  | succ k ih =>
    rw [mp, evn_am hx (mp_lt hs hp k) hq (hp k) _ (Nat.le_refl _) (by rw [mp_length]; omega), List.take_length, ih (by omega), evn_take hx hp (by omega), mul_xor_a _ _ _ (evn_lt (hp.take k)) (mul_lt (hp k)), Nat.xor_assoc]
theorem evn_cut {x : Nat} (hx : x < 256) {l : List Nat} (hl : AllLt l) : ∀ n, n ≤ l.length → evn x (l.take (cutN (ci l) n)) = evn x (l.take n)
  | 0, _ => rfl
  | n + 1, h => by
    rw [cutN]
    split
    · rename_i h0
      rw [ci_getD] at h0
      have h1 : l.getD n 0 = 0 := by omega
      rw [evn_cut hx hl n (by omega), evn_take hx hl (by omega), h1, zero_mul (px_lt x n), Nat.xor_zero]
    · rfl
theorem ci_take (l : List Nat) (n : Nat) : (ci l).take n = ci (l.take n) := by simp [ci]
theorem cutL_ci (l : List Nat) : cutL (ci l) = ci (l.take (cutN (ci l) l.length)) := by
  unfold cutL
  rw [ci_length, ci_take]
theorem ev_cut {x : Nat} (hx : x < 256) {l : List Nat} (hl : AllLt l) : ev x (cutL (ci l)) = evn x l := by
  rw [cutL_ci, ev_ci, evn_cut hx hl _ (Nat.le_refl _), List.take_length]

theorem goodP_ci {l : List Nat} (hl : AllLt l) (h40 : l.length ≤ 40) (hlast : l.length = 0 ∨ l.getD (l.length - 1) 0 ≠ 0) : goodP (ci l) = true := by
  have h1 : decide ((ci l).length ≤ 40) = true := by rw [ci_length]; simpa using h40
  have h2 : (ci l).all elOk = true := by
    rw [all_of_getD]
    intro i _
    rw [ci_getD]
    have := hl i
    exact elOk_iff.2 (by omega)
  have h3 : ((ci l).isEmpty || (ci l).getD ((ci l).length - 1) 0 != 0) = true := by
    rw [ci_length, ci_getD]
    rcases hlast with h | h
    · have : l = [] := List.eq_nil_of_length_eq_zero h
      subst this; rfl
    · have : ((l.getD (l.length - 1) 0 : Nat) : Int) ≠ 0 := by omega
      rw [Bool.or_eq_true]
      exact .inr (bne_iff_ne.2 this)
  simp only [goodP, h1, h2, h3, Bool.true_and]
theorem cutN_last (xs : List Int) : ∀ n, cutN xs n = 0 ∨ xs.getD (cutN xs n - 1) 0 ≠ 0
  | 0 => .inl rfl
  | n + 1 => by
    rw [cutN]
    split
    · exact cutN_last xs n
    · right; simpa using ‹_›
theorem goodP_cut {l : List Nat} (hl : AllLt l) (h40 : l.length ≤ 40) : goodP (cutL (ci l)) = true := by
  have hn := cutN_le (ci l) l.length
  rw [cutL_ci]
  have hlen : (l.take (cutN (ci l) l.length)).length = cutN (ci l) l.length := by rw [List.length_take]; omega
  refine goodP_ci (hl.take _) (by omega) ?_
  rw [hlen]
  rcases cutN_last (ci l) l.length with h | h
  · exact .inl h
  · by_cases h0 : cutN (ci l) l.length = 0
    · exact .inl h0
    · right
      rw [ci_getD] at h
      rw [List.getD_eq_getElem?_getD, List.getElem?_take, if_pos (by omega), ← List.getD_eq_getElem?_getD]
      omega
theorem cutN_bound {xs : List Int} {B : Nat} : ∀ n, (∀ i, B ≤ i → i < n → xs.getD i 0 = 0) → cutN xs n ≤ B
  | 0, _ => Nat.zero_le _
  | n + 1, h => by
    by_cases hb : B ≤ n
    · rw [cutN, if_pos (h n hb (by omega))]
      exact cutN_bound n (fun i h1 h2 => h i h1 (by omega))
    · have := cutN_le xs (n + 1)
      omega

theorem dv2_zero {p q : List Nat} {m len : Nat} : ∀ (j : Nat) (i : Nat), i + j ≤ m → (dv p q m len j).2.getD i 0 = 0
  | 0, i, _ => by
    show (List.replicate len 0).getD i 0 = 0
    simp only [List.getD_eq_getElem?_getD, List.getElem?_replicate]
    split <;> simp
  | j + 1, i, h => by
    rw [dv]
    simp only []
    rw [List.getD_eq_getElem?_getD, List.getElem?_set_ne (by omega), ← List.getD_eq_getElem?_getD]
    exact dv2_zero j i (by omega)
theorem evn_dv {x : Nat} (hx : x < 256) {p q : List Nat} {m : Nat} (hp : AllLt p) (hq : AllLt q) (hm : m + q.length = p.length) : ∀ j, j ≤ m + 1 →
    evn x (dv p q m (m + 1) j).1 ^^^ mul (evn x q) (evn x (dv p q m (m + 1) j).2) = evn x p
  | 0, _ => by
    show evn x p ^^^ mul (evn x q) (evn x (List.replicate (m + 1) 0)) = evn x p
    rw [evn_zeros hx, mul_zero, Nat.xor_zero]
  | j + 1, h => by
    have ih := evn_dv hx hp hq hm j (by omega)
    have hd := dq_lt (q := q) (dv_lt1 (q := q) (m := m) (len := m + 1) hp j) (m - j)
    have e : (dv p q m (m + 1) j).2.set (m - j) (dq (dv p q m (m + 1) j).1 q (m - j)) = xorAt (dv p q m (m + 1) j).2 (m - j) (dq (dv p q m (m + 1) j).1 q (m - j)) := by
      unfold xorAt
      rw [dv2_zero j (m - j) (by omega), Nat.zero_xor]
    rw [dv]
    simp only []
    rw [e, evn_am hx (dv_lt1 hp j) hq hd _ (Nat.le_refl _) (by rw [dv_len1]; omega), List.take_length, evn_xorAt hx _ _ _ (dv_lt2 hp j) hd (by rw [dv_len2]; omega), mul_xor_b, mul_comm (evn x q) (mul _ _) (evn_lt hq) (mul_lt hd)]
    rw [← ih, xor4, Nat.xor_self, Nat.xor_zero]
theorem dv1_zero {p q : List Nat} {m : Nat} (hp : AllLt p) (hq : AllLt q) (hm : m + q.length = p.length) (h0 : 0 < q.length) (hq0 : q.getD (q.length - 1) 0 ≠ 0) : ∀ j, j ≤ m + 1 → ∀ i, m + q.length ≤ i + j → (dv p q m (m + 1) j).1.getD i 0 = 0
  | 0, _, i, h => by
    show p.getD i 0 = 0
    rw [List.getD_eq_getElem?_getD, List.getElem?_eq_none (by omega)]; rfl
  | j + 1, hj, i, h => by
    have ih := dv1_zero hp hq hm h0 hq0 j (by omega)
    obtain ⟨k, hk⟩ : ∃ k, k = m - j := ⟨_, rfl⟩
    obtain ⟨n, hn⟩ : ∃ n, q.length = n + 1 := ⟨q.length - 1, by omega⟩
    rw [dv]
    simp only []
    rw [← hk]
    by_cases hi : i = k + n
    · subst hi
      rw [hn, amTo, xorAt, List.getD_eq_getElem?_getD, List.getElem?_set_self (by rw [amTo_length, dv_len1]; omega), Option.getD_some, amTo_far n (Nat.le_refl _)]
      rw [hn, Nat.add_sub_cancel] at hq0
      have e : mul (dq (dv p q m (m + 1) j).1 q k) (q.getD n 0) = (dv p q m (m + 1) j).1.getD (k + n) 0 := by
        unfold dq
        rw [hn, Nat.add_sub_cancel, show k + (n + 1) - 1 = k + n from by omega, mul_assoc _ _ _ (dv_lt1 hp j _) (inv_lt _) (hq n), mul_comm (inv _) _ (inv_lt _) (hq n), mul_inv _ (hq n) hq0, mul_one _ (dv_lt1 hp j _)]
      rw [e, Nat.xor_self]
    · rw [amTo_far _ (by omega)]
      exact ih i (by omega)

theorem ev_good {x : Nat} {xs : List Int} (h : goodP xs = true) : ev x xs = evn x (nat xs) := by
  rw [← ev_ci, ci_natp (goodP_mem h)]
theorem div_facts {xs ys : List Int} (h : (divR xs ys).2.2 = true) :
    goodP xs = true ∧ goodP ys = true ∧ goodP (divR xs ys).1 = true ∧ goodP (divR xs ys).2.1 = true ∧ (divR xs ys).2.1.length < ys.length ∧
      ∀ x, x < 256 → mul (ev x ys) (ev x (divR xs ys).1) ^^^ ev x (divR xs ys).2.1 = ev x xs := by
  by_cases hg : goodP xs = true ∧ goodP ys = true ∧ ys.length ≠ 0
  · obtain ⟨hx, hy, h0⟩ := hg
    have ax := nat_ltp (goodP_mem hx)
    have ay := nat_ltp (goodP_mem hy)
    have lx := goodP_len hx
    by_cases hs : xs.length < ys.length
    · rw [divR_short hx hy h0 hs]
      have e : cutL xs = cutL (ci (nat xs)) := by rw [ci_natp (goodP_mem hx)]
      refine ⟨hx, hy, goodP_nil, ?_, ?_, fun x hx256 => ?_⟩
      · show goodP (cutL xs) = true
        rw [e]
        exact goodP_cut ax (by rw [nat_length]; exact lx)
      · show (cutL xs).length < ys.length
        have := cutL_length xs
        have := cutN_le xs xs.length
        omega
      · show mul (ev x ys) 0 ^^^ ev x (cutL xs) = ev x xs
        rw [mul_zero, Nat.zero_xor, e, ev_cut hx256 ax, ev_good hx]
    · rw [divR_yes hx hy h0 hs]
      obtain ⟨m, hm⟩ : ∃ m, m = xs.length - ys.length := ⟨_, rfl⟩
      rw [← hm]
      have hml : m + (nat ys).length = (nat xs).length := by rw [nat_length, nat_length]; omega
      have hy0 : 0 < (nat ys).length := by rw [nat_length]; omega
      have hl : (nat ys).getD ((nat ys).length - 1) 0 ≠ 0 := by rw [nat_length]; exact last_nat hy (by omega)
      refine ⟨hx, hy, ?_, goodP_cut (dv_lt1 ax _) (by rw [dv_len1, nat_length]; exact lx), ?_, fun x hx256 => ?_⟩
      · refine goodP_ci (dv_lt2 ax _) (by rw [dv_len2]; omega) (.inr ?_)
        rw [dv_len2, Nat.add_sub_cancel, dv_top m (Nat.le_refl _)]
        intro hz
        rcases mul_eq_zero _ _ (ax _) (inv_lt _) hz with hz | hz
        · rw [show m + (nat ys).length - 1 = xs.length - 1 from by rw [nat_length]; omega] at hz
          exact last_nat hx (by omega) hz
        · exact inv_ne (ay _) hl hz
      · show (cutL _).length < ys.length
        rw [cutL_length, ci_length]
        have hb := cutN_bound (xs := ci (dv (nat xs) (nat ys) m (m + 1) (m + 1)).1) (B := ys.length - 1) (dv (nat xs) (nat ys) m (m + 1) (m + 1)).1.length (fun i h1 _ => by
          rw [ci_getD, dv1_zero ax ay hml hy0 hl (m + 1) (Nat.le_refl _) i (by rw [nat_length]; omega)]; rfl)
        omega
      · show mul (ev x ys) (ev x (ci _)) ^^^ ev x (cutL (ci _)) = ev x xs
        rw [ev_ci, ev_cut hx256 (dv_lt1 ax _), ev_good hx, ev_good hy, Nat.xor_comm]
        exact evn_dv hx256 ax ay hml (m + 1) (Nat.le_refl _)
  · rw [divR_no hg] at h
    cases h
theorem mul_facts {xs ys : List Int} (h : (mulR xs ys).2 = true) :
    goodP xs = true ∧ goodP ys = true ∧ goodP (mulR xs ys).1 = true ∧ (∀ x, x < 256 → mul (ev x xs) (ev x ys) = ev x (mulR xs ys).1) ∧
      (0 < xs.length → 0 < ys.length → (mulR xs ys).1.length = xs.length + ys.length - 1) := by
  by_cases hg : goodP xs = true ∧ goodP ys = true
  · obtain ⟨hx, hy⟩ := hg
    have ax := nat_ltp (goodP_mem hx)
    have ay := nat_ltp (goodP_mem hy)
    by_cases he : xs.length = 0 ∨ ys.length = 0
    · have e : mulR xs ys = ([], true) := by unfold mulR; rw [if_pos ⟨hx, hy⟩, if_pos he]
      rw [e]
      refine ⟨hx, hy, goodP_nil, fun x hx256 => ?_, fun h1 h2 => by omega⟩
      show _ = 0
      rcases he with he | he
      · have : xs = [] := List.eq_nil_of_length_eq_zero he
        subst this
        show mul 0 _ = 0
        rw [ev_good hy, zero_mul (evn_lt ay)]
      · have : ys = [] := List.eq_nil_of_length_eq_zero he
        subst this
        exact mul_zero _
    · by_cases hl : 40 < xs.length + ys.length - 1
      · have e : mulR xs ys = ([], false) := by unfold mulR; rw [if_pos ⟨hx, hy⟩, if_neg he, if_pos hl]
        rw [e] at h
        cases h
      · have e : mulR xs ys = (ci (mp (nat xs) (nat ys) (List.replicate (xs.length + ys.length - 1) 0) xs.length), true) := by unfold mulR; rw [if_pos ⟨hx, hy⟩, if_neg he, if_neg hl]
        rw [e]
        obtain ⟨n, hn⟩ : ∃ n, n = xs.length + ys.length - 1 := ⟨_, rfl⟩
        rw [← hn]
        have hlen : (mp (nat xs) (nat ys) (List.replicate n 0) xs.length).length = n := by rw [mp_length, List.length_replicate]
        refine ⟨hx, hy, goodP_ci (mp_lt (allLt_zeros n) ax _) (by rw [hlen]; omega) (.inr ?_), fun x hx256 => ?_, fun _ _ => by show (ci _).length = _; rw [ci_length, hlen]⟩
        · rw [hlen]
          have htop := mp_top (p := nat xs) (q := nat ys) (n := n) (by rw [nat_length]; omega) (by rw [nat_length]; omega) (by rw [nat_length, nat_length]; omega)
          rw [nat_length, nat_length] at htop
          rw [htop]
          intro hz
          rcases mul_eq_zero _ _ (ax _) (ay _) hz with hz | hz
          · exact last_nat hx (by omega) hz
          · exact last_nat hy (by omega) hz
        · show _ = ev x (ci _)
          rw [ev_ci, ev_good hx, ev_good hy, evn_mp hx256 ax ay (allLt_zeros n) _ (by rw [nat_length]; exact Nat.le_refl _) (by rw [nat_length, nat_length, List.length_replicate]; omega), evn_zeros hx256, Nat.zero_xor, List.take_of_length_le (by rw [nat_length]; exact Nat.le_refl _)]
  · have e : mulR xs ys = ([], false) := by unfold mulR; rw [if_neg hg]
    rw [e] at h
    cases h
end Gf
end Go.Proofs.YtogopakmebiomaaDoor
