/-
  The shortest rule of syndromes (Berlekamp, Massey), step by step, as plain functions on lists: the program's way, in a row of fixed length, and the model's; that both tell the same. Plain mathematics. No condition.
-/
import Derived.Test.YtogopakmebiomaaDoorPolyE
namespace Go.Proofs.YtogopakmebiomaaDoor
namespace Gf

def fn (l : List Nat) (i : Nat) : Nat := l.getD i 0
theorem fn_far {l : List Nat} {i : Nat} (h : l.length ≤ i) : fn l i = 0 := by simp [fn, List.getD_eq_getElem?_getD, h]
theorem am_get {s q : List Nat} {f a : Nat} (k i : Nat) (hfit : a + k ≤ s.length) : (amTo s q f a k).getD i 0 = if a ≤ i ∧ i < a + k then s.getD i 0 ^^^ mul f (q.getD (i - a) 0) else s.getD i 0 := by
  induction k with
  | zero => rw [if_neg (by omega)]; rfl
  | succ k ih =>
    rw [amTo, xorAt]
    have ih := ih (by omega)
    by_cases e : i = a + k
    · subst e
      rw [List.getD_eq_getElem?_getD, List.getElem?_set_self (by rw [amTo_length]; omega), Option.getD_some, ih, if_neg (by omega), if_pos (by omega), Nat.add_sub_cancel_left]
    · rw [List.getD_eq_getElem?_getD, List.getElem?_set_ne (by omega), ← List.getD_eq_getElem?_getD, ih]
      by_cases h : a ≤ i ∧ i < a + k
      · rw [if_pos h, if_pos (by omega)]
      · rw [if_neg h, if_neg (by omega)]
/-- A function moved up by so many places. -/
def shf (q : Nat → Nat) (a i : Nat) : Nat := if a ≤ i then q (i - a) else 0
theorem am_fun {s q : List Nat} {f a : Nat} (hfit : a + q.length ≤ s.length) (i : Nat) : fn (amTo s q f a q.length) i = fn s i ^^^ mul f (shf (fn q) a i) := by
  unfold fn shf
  rw [am_get _ _ hfit]
  by_cases h : a ≤ i
  · rw [if_pos h]
    by_cases h2 : i < a + q.length
    · rw [if_pos ⟨h, h2⟩]
    · rw [if_neg (by omega)]
      show s.getD i 0 = s.getD i 0 ^^^ mul f (q.getD (i - a) 0)
      rw [show q.getD (i - a) 0 = 0 from fn_far (by omega), mul_zero, Nat.xor_zero]
  · rw [if_neg h, if_neg (by omega), mul_zero, Nat.xor_zero]

/-- The sum of c's i times s's k - i, for i below j. -/
def dsc (c s : Nat → Nat) (k : Nat) : Nat → Nat
  | 0 => 0
  | i + 1 => dsc c s k i ^^^ mul (c i) (s (k - i))
theorem dsc_lt {c s : Nat → Nat} {k : Nat} (hc : ∀ i, c i < 256) (j : Nat) : dsc c s k j < 256 := by
  induction j with
  | zero => show 0 < 256; omega
  | succ j ih => exact xor_lt ih (mul_lt (hc j))
theorem dsc_congr {c c' s : Nat → Nat} {k : Nat} (h : ∀ i, c i = c' i) (j : Nat) : dsc c s k j = dsc c' s k j := by
  induction j with
  | zero => rfl
  | succ j ih => rw [dsc, dsc, ih, h j]
theorem dsc_more {c s : Nat → Nat} {k : Nat} (hs : ∀ i, s i < 256) (j m : Nat) (h : ∀ i, j ≤ i → c i = 0) : dsc c s k (j + m) = dsc c s k j := by
  induction m with
  | zero => rfl
  | succ m ih => rw [← Nat.add_assoc, dsc, ih, h (j + m) (by omega), zero_mul (hs _), Nat.xor_zero]
theorem dsc_min {c s : Nat → Nat} {k : Nat} (hs : ∀ i, s i < 256) (j l : Nat) (h : ∀ i, l ≤ i → c i = 0) : dsc c s k (min j l) = dsc c s k j := by
  by_cases hjl : j ≤ l
  · rw [Nat.min_eq_left hjl]
  · rw [Nat.min_eq_right (by omega)]
    have := dsc_more (k := k) hs l (j - l) h
    rw [show l + (j - l) = j from by omega] at this
    exact this.symm

structure Bm where
  c : List Nat
  b : List Nat
  last : Nat
  m : Nat
  long : Nat
def cutNl (l : List Nat) : List Nat := l.take (cutN (ci l) l.length)
theorem cutL_nl (l : List Nat) : cutL (ci l) = ci (cutNl l) := cutL_ci l
theorem cutNl_length (l : List Nat) : (cutNl l).length = cutN (ci l) l.length := by
  have := cutN_le (ci l) l.length
  simp [cutNl]; omega
theorem cutN_above (xs : List Int) : ∀ n i, cutN xs n ≤ i → i < n → xs.getD i 0 = 0
  | 0, i, _, h => by omega
  | n + 1, i, h1, h2 => by
    rw [cutN] at h1
    split at h1
    next h =>
      by_cases e : i = n
      · subst e; exact h
      · exact cutN_above xs n i h1 (by omega)
    next => omega
theorem cutNl_fn (l : List Nat) (i : Nat) : fn (cutNl l) i = fn l i := by
  by_cases h : i < cutN (ci l) l.length
  · simp [fn, cutNl, List.getD_eq_getElem?_getD, h]
  · rw [fn_far (by rw [cutNl_length]; omega)]
    by_cases h2 : i < l.length
    · have := cutN_above (ci l) l.length i (by omega) h2
      rw [ci_getD] at this
      unfold fn
      omega
    · rw [fn_far (by omega)]
theorem cutNl_lt {l : List Nat} (h : AllLt l) : AllLt (cutNl l) := h.take _
theorem cutNl_ext {l m : List Nat} (h : ∀ i, fn l i = fn m i) : cutNl l = cutNl m := by
  have key : ∀ a b : List Nat, (∀ i, fn a i = fn b i) → (cutNl a).length ≤ (cutNl b).length := by
    intro a b hab
    have hl := cutNl_length a
    rcases cutN_last (ci a) a.length with h0 | h0
    · omega
    · rw [← hl] at h0
      by_cases hz : (cutNl a).length = 0
      · omega
      · by_cases hle : (cutNl a).length ≤ (cutNl b).length
        · exact hle
        · exfalso
          apply h0
          rw [ci_getD]
          have e : fn (cutNl b) ((cutNl a).length - 1) = 0 := fn_far (by omega)
          rw [cutNl_fn, ← hab] at e
          show ((fn a ((cutNl a).length - 1) : Nat) : Int) = 0
          rw [e]; rfl
  have h1 := key l m h
  have h2 := key m l (fun i => (h i).symm)
  apply List.ext_getElem?
  intro i
  by_cases hi : i < (cutNl l).length
  · have e : fn (cutNl l) i = fn (cutNl m) i := by rw [cutNl_fn, cutNl_fn, h i]
    have hm : i < (cutNl m).length := by omega
    simp only [fn, List.getD_eq_getElem?_getD, List.getElem?_eq_getElem hi, List.getElem?_eq_getElem hm, Option.getD_some] at e
    rw [List.getElem?_eq_getElem hi, List.getElem?_eq_getElem hm, e]
  · rw [List.getElem?_eq_none (by omega), List.getElem?_eq_none (by omega)]

def bmD (s : List Nat) (k : Nat) (q : Bm) : Nat := dsc (fn q.c) (fn s) k (q.long + 1)
def bmC (s : List Nat) (k : Nat) (q : Bm) : List Nat := amTo q.c q.b (mul (bmD s k q) (inv q.last)) q.m q.b.length
def bmStep (s : List Nat) (k : Nat) (q : Bm) : Bm :=
  if bmD s k q = 0 then ⟨q.c, q.b, q.last, q.m + 1, q.long⟩
  else if k < 2 * q.long then ⟨bmC s k q, q.b, q.last, q.m + 1, q.long⟩
  else ⟨bmC s k q, cutNl q.c, bmD s k q, 1, k + 1 - q.long⟩
def bmTo (s : List Nat) : Nat → Bm
  | 0 => ⟨1 :: List.replicate s.length 0, [1], 1, 1, 0⟩
  | k + 1 => bmStep s k (bmTo s k)
/-- What holds of the program's state ahead of step k, of n syndromes. -/
structure BmI (n k : Nat) (q : Bm) : Prop where
  len : q.c.length = n + 1
  cl : AllLt q.c
  bl : AllLt q.b
  l0 : q.last ≠ 0
  ll : q.last < 256
  m1 : 1 ≤ q.m
  lk : q.long ≤ k
  top : ∀ i, q.long < i → fn q.c i = 0
  fit : q.b.length + q.m + q.long ≤ k + 2
  one : fn q.c 0 = 1
theorem bmD_lt {s : List Nat} {k : Nat} {q : Bm} (hq : AllLt q.c) : bmD s k q < 256 := dsc_lt hq _
theorem bmC_fn {s : List Nat} {n k : Nat} {q : Bm} (h : BmI n k q) (hk : k < n) (i : Nat) : fn (bmC s k q) i = fn q.c i ^^^ mul (mul (bmD s k q) (inv q.last)) (shf (fn q.b) q.m i) :=
  am_fun (by have := h.fit; have := h.len; omega) i
theorem bm_inv {s : List Nat} (hs : AllLt s) : ∀ k, k ≤ s.length → BmI s.length k (bmTo s k)
  | 0, _ => by
    refine ⟨by simp [bmTo], ?_, ?_, by show (1 : Nat) ≠ 0; omega, by show (1 : Nat) < 256; omega, Nat.le_refl _, Nat.le_refl _, ?_, by simp [bmTo], rfl⟩
    · intro i
      cases i with
      | zero => show 1 < 256; omega
      | succ i => exact allLt_zeros s.length i
    · intro i
      cases i with
      | zero => show 1 < 256; omega
      | succ i => show 0 < 256; omega
    · intro i hi
      cases i with
      | zero => exact absurd hi (Nat.lt_irrefl _)
      | succ i => simp [fn, bmTo, List.getD_eq_getElem?_getD, List.getElem?_replicate]; split <;> simp
  | k + 1, hk => by
    have h := bm_inv hs k (by omega)
    rw [bmTo]
    generalize bmTo s k = q at h
    have hC : AllLt (bmC s k q) := amTo_lt h.cl (mul_lt (bmD_lt h.cl)) _
    have hCl : (bmC s k q).length = s.length + 1 := by unfold bmC; rw [amTo_length]; exact h.len
    have hfit := h.fit
    have hm1 := h.m1
    have hlk := h.lk
    have h1 : fn (bmC s k q) 0 = 1 := by
      rw [bmC_fn h hk, h.one, shf, if_neg (by omega), mul_zero, Nat.xor_zero]
    have htop : ∀ i, q.long < i → k + 1 - q.long < i → fn (bmC s k q) i = 0 := by
      intro i h2 h3
      rw [bmC_fn h hk, h.top i h2, shf]
      split
      · rw [fn_far (by omega), mul_zero, Nat.xor_zero]
      · rw [mul_zero, Nat.xor_zero]
    unfold bmStep
    split
    · exact ⟨h.len, h.cl, h.bl, h.l0, h.ll, by show 1 ≤ q.m + 1; omega, by show q.long ≤ k + 1; omega, h.top, by show q.b.length + (q.m + 1) + q.long ≤ k + 1 + 2; omega, h.one⟩
    · next hd =>
      split
      · next h2 => exact ⟨hCl, hC, h.bl, h.l0, h.ll, by show 1 ≤ q.m + 1; omega, by show q.long ≤ k + 1; omega, fun i hi => htop i hi (by have : q.long < i := hi; omega), by show q.b.length + (q.m + 1) + q.long ≤ k + 1 + 2; omega, h1⟩
      · next h2 =>
        refine ⟨hCl, hC, cutNl_lt h.cl, hd, bmD_lt h.cl, Nat.le_refl _, by show k + 1 - q.long ≤ k + 1; omega, fun i hi => htop i (by have : k + 1 - q.long < i := hi; omega) hi, ?_, h1⟩
        show (cutNl q.c).length + 1 + (k + 1 - q.long) ≤ k + 1 + 2
        have : cutN (ci q.c) q.c.length ≤ q.long + 1 := cutN_bound _ (fun i hi _ => by
          rw [ci_getD]
          have := h.top i (by omega)
          unfold fn at this
          rw [this]; rfl)
        rw [cutNl_length]
        omega

def smD (s : List Nat) (k : Nat) (q : Bm) : Nat := dsc (fn q.c) (fn s) k (min (q.long + 1) q.c.length)
/-- A list with noughts behind it, as many as are wanted. -/
def padTo (p : List Nat) (n : Nat) : List Nat := p ++ List.replicate (n - p.length) 0
theorem padTo_fn (p : List Nat) (n i : Nat) : fn (padTo p n) i = fn p i := by
  unfold fn padTo
  simp only [List.getD_eq_getElem?_getD]
  by_cases h : i < p.length
  · rw [List.getElem?_append_left h]
  · rw [List.getElem?_append_right (by omega), List.getElem?_replicate, List.getElem?_eq_none (by omega)]
    split <;> rfl
theorem padTo_length (p : List Nat) (n : Nat) : (padTo p n).length = max p.length n := by simp [padTo]; omega
theorem padTo_lt {p : List Nat} (h : AllLt p) (n : Nat) : AllLt (padTo p n) := fun i => by
  have := padTo_fn p n i
  unfold fn at this
  rw [this]
  exact h i
def smAdd (p q : List Nat) (f m : Nat) : List Nat := amTo (padTo p (q.length + m)) q f m q.length
theorem smAdd_fn {p q : List Nat} {f m : Nat} (i : Nat) : fn (smAdd p q f m) i = fn p i ^^^ mul f (shf (fn q) m i) := by
  unfold smAdd
  rw [am_fun (by rw [padTo_length]; omega), padTo_fn]
def smStep (s : List Nat) (k : Nat) (q : Bm) : Bm :=
  if smD s k q = 0 then ⟨q.c, q.b, q.last, q.m + 1, q.long⟩
  else if 2 * q.long ≤ k then ⟨smAdd q.c q.b (mul (smD s k q) (inv q.last)) q.m, q.c, smD s k q, 1, k + 1 - q.long⟩
  else ⟨smAdd q.c q.b (mul (smD s k q) (inv q.last)) q.m, q.b, q.last, q.m + 1, q.long⟩
def smTo (s : List Nat) : Nat → Bm
  | 0 => ⟨[1], [1], 1, 1, 0⟩
  | k + 1 => smStep s k (smTo s k)
structure SmI (k : Nat) (q : Bm) : Prop where
  cl : AllLt q.c
  bl : AllLt q.b
  ll : q.last < 256
  lc : 1 ≤ q.c.length
  lc2 : q.c.length ≤ k + 1
  lb : q.b.length + q.m ≤ k + 2
  m1 : 1 ≤ q.m
  lk : q.long ≤ k
theorem smD_lt {s : List Nat} {k : Nat} {q : Bm} (hq : AllLt q.c) : smD s k q < 256 := dsc_lt hq _
theorem smAdd_length (p q : List Nat) (f m : Nat) : (smAdd p q f m).length = max p.length (q.length + m) := by unfold smAdd; rw [amTo_length, padTo_length]
theorem sm_inv (s : List Nat) : ∀ k, SmI k (smTo s k)
  | 0 => by
    have one : AllLt [1] := by
      intro i
      cases i with
      | zero => show 1 < 256; omega
      | succ i => show 0 < 256; omega
    exact ⟨one, one, by show (1 : Nat) < 256; omega, Nat.le_refl _, Nat.le_refl _, Nat.le_refl _, Nat.le_refl _, Nat.le_refl _⟩
  | k + 1 => by
    have h := sm_inv s k
    rw [smTo]
    generalize smTo s k = q at h
    obtain ⟨h1, h2, h3, h4, h5, h6, h7, h8⟩ := h
    have hC : AllLt (smAdd q.c q.b (mul (smD s k q) (inv q.last)) q.m) := amTo_lt (padTo_lt h1 _) (mul_lt (smD_lt h1)) _
    have hl := smAdd_length q.c q.b (mul (smD s k q) (inv q.last)) q.m
    unfold smStep
    split
    · exact ⟨h1, h2, h3, h4, by show q.c.length ≤ k + 1 + 1; omega, by show q.b.length + (q.m + 1) ≤ k + 1 + 2; omega, by show 1 ≤ q.m + 1; omega, by show q.long ≤ k + 1; omega⟩
    · split
      · exact ⟨hC, h1, smD_lt h1, by show 1 ≤ (smAdd _ _ _ _).length; omega, by show (smAdd _ _ _ _).length ≤ k + 1 + 1; omega, by show q.c.length + 1 ≤ k + 1 + 2; omega, Nat.le_refl _, by show k + 1 - q.long ≤ k + 1; omega⟩
      · exact ⟨hC, h2, h3, by show 1 ≤ (smAdd _ _ _ _).length; omega, by show (smAdd _ _ _ _).length ≤ k + 1 + 1; omega, by show q.b.length + (q.m + 1) ≤ k + 1 + 2; omega, by show 1 ≤ q.m + 1; omega, by show q.long ≤ k + 1; omega⟩
structure BmR (p q : Bm) : Prop where
  c : ∀ i, fn p.c i = fn q.c i
  b : ∀ i, fn p.b i = fn q.b i
  last : p.last = q.last
  m : p.m = q.m
  long : p.long = q.long
theorem bm_same {s : List Nat} (hs : AllLt s) : ∀ k, k ≤ s.length → BmR (bmTo s k) (smTo s k)
  | 0, _ => by
    refine ⟨fun i => ?_, fun i => rfl, rfl, rfl, rfl⟩
    cases i with
    | zero => rfl
    | succ i =>
      show fn (1 :: List.replicate s.length 0) (i + 1) = fn [1] (i + 1)
      simp [fn, List.getD_eq_getElem?_getD, List.getElem?_replicate]
      split <;> simp
  | k + 1, hk => by
    have h := bm_same hs k (by omega)
    have hi := bm_inv hs k (by omega)
    rw [bmTo, smTo]
    generalize bmTo s k = p at h hi
    generalize smTo s k = q at h
    obtain ⟨hc, hb, hla, hm, hlo⟩ := h
    have hd : bmD s k p = smD s k q := by
      unfold bmD smD
      rw [dsc_min (s := fn s) hs _ _ (fun i hi => fn_far hi), hlo]
      exact dsc_congr hc _
    have hC : ∀ i, fn (bmC s k p) i = fn (smAdd q.c q.b (mul (smD s k q) (inv q.last)) q.m) i := by
      intro i
      rw [bmC_fn hi hk, smAdd_fn, hd, hla, hm, hc]
      congr 2
      unfold shf
      split
      · exact hb _
      · rfl
    unfold bmStep smStep
    rw [hd, hlo]
    split
    · exact ⟨hc, hb, hla, by show p.m + 1 = q.m + 1; rw [hm], rfl⟩
    · by_cases h2 : 2 * q.long ≤ k
      · rw [if_neg (by omega), if_pos h2]
        exact ⟨hC, fun i => by show fn (cutNl p.c) i = fn q.c i; rw [cutNl_fn, hc], rfl, rfl, rfl⟩
      · rw [if_pos (by omega), if_neg h2]
        exact ⟨hC, hb, hla, by show p.m + 1 = q.m + 1; rw [hm], rfl⟩
/-- The rule that both tell. -/
def locN (s : List Nat) : List Nat := cutNl (bmTo s s.length).c
theorem loc_same {s : List Nat} (hs : AllLt s) : cutNl (smTo s s.length).c = locN s := (cutNl_ext (bm_same hs s.length (Nat.le_refl _)).c).symm

end Gf
end Go.Proofs.YtogopakmebiomaaDoor
