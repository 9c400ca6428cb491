/-
  Sums of bytes as plain numbers: one step down, a text's bytes taken in, bursts: no memory, no program. No condition.
-/
import Derived.Laws.Bits64
namespace Go.Proofs.Ytpgmocogffolaaa
namespace Crc

/-- One step down. -/
def st (x : Nat) : Nat := x / 2 ^^^ x % 2 * 2197175160
/-- So many steps down. -/
def sts : Nat → Nat → Nat
  | 0, x => x
  | n + 1, x => sts n (st x)
/-- A sum that takes bytes in. -/
def run : Nat → List Nat → Nat
  | s, [] => s
  | s, b :: l => run (sts 8 (s ^^^ b)) l
/-- The number that a text's bytes are, the lowest first. -/
def num : List Nat → Nat
  | [] => 0
  | b :: l => b ^^^ num l * 256

theorem xor_mod2 (x y : Nat) : (x ^^^ y) % 2 = (x % 2 + y % 2) % 2 := by
  have h := Nat.xor_mod_two_pow (a := x) (b := y) (n := 1)
  simp only [Nat.pow_one] at h
  rw [h]
  rcases Nat.mod_two_eq_zero_or_one x with hx | hx <;> rcases Nat.mod_two_eq_zero_or_one y with hy | hy <;> rw [hx, hy] <;> rfl
theorem xor_div2 (x y : Nat) : (x ^^^ y) / 2 = x / 2 ^^^ y / 2 := by
  have h := Nat.shiftRight_xor_distrib (a := x) (b := y) (i := 1)
  simpa [Nat.shiftRight_eq_div_pow] using h
theorem xor_swap (a b c d : Nat) : (a ^^^ b) ^^^ (c ^^^ d) = (a ^^^ c) ^^^ (b ^^^ d) := by
  rw [Nat.xor_assoc, Nat.xor_assoc, ← Nat.xor_assoc b c d, Nat.xor_comm b c, Nat.xor_assoc c b d]
theorem st_xor (x y : Nat) : st (x ^^^ y) = st x ^^^ st y := by
  unfold st
  rw [xor_swap, ← xor_div2, xor_mod2]
  congr 1
  rcases Nat.mod_two_eq_zero_or_one x with hx | hx <;> rcases Nat.mod_two_eq_zero_or_one y with hy | hy <;> rw [hx, hy] <;> simp
theorem st_even (y : Nat) : st (y * 2) = y := by
  unfold st
  rw [Nat.mul_div_cancel _ (by omega), Nat.mul_mod_left]
  simp
theorem st_zero : st 0 = 0 := by simp [st]
theorem st_lt {x : Nat} (h : x < 4294967296) : st x < 4294967296 := by
  unfold st
  refine Nat.xor_lt_two_pow (n := 32) (by omega) ?_
  rcases Nat.mod_two_eq_zero_or_one x with hx | hx <;> rw [hx] <;> decide
theorem xor_nought {a b : Nat} (h : a ^^^ b = 0) : a = b := by
  have h1 := congrArg (· ^^^ b) h
  simpa [Nat.xor_assoc] using h1
theorem st_inj {x : Nat} (h : x < 4294967296) (h0 : st x = 0) : x = 0 := by
  unfold st at h0
  have h0 := xor_nought h0
  rcases Nat.mod_two_eq_zero_or_one x with hx | hx <;> rw [hx] at h0 <;> omega
theorem sts_xor (n x y : Nat) : sts n (x ^^^ y) = sts n x ^^^ sts n y := by
  induction n generalizing x y with
  | zero => rfl
  | succ n ih => simp only [sts]; rw [st_xor, ih]
theorem sts_zero (n : Nat) : sts n 0 = 0 := by
  induction n with
  | zero => rfl
  | succ n ih => simp only [sts]; rw [st_zero, ih]
theorem sts_lt (n : Nat) {x : Nat} (h : x < 4294967296) : sts n x < 4294967296 := by
  induction n generalizing x with
  | zero => exact h
  | succ n ih => exact ih (st_lt h)
theorem sts_inj (n : Nat) {x : Nat} (h : x < 4294967296) (h0 : sts n x = 0) : x = 0 := by
  induction n generalizing x with
  | zero => exact h0
  | succ n ih => exact st_inj h (ih (st_lt h) h0)
theorem sts_add (m n x : Nat) : sts (m + n) x = sts n (sts m x) := by
  induction m generalizing x with
  | zero => rw [Nat.zero_add]; rfl
  | succ m ih => rw [Nat.succ_add]; exact ih (st x)
theorem sts_succ (n x : Nat) : sts (n + 1) x = st (sts n x) := sts_add n 1 x
theorem sts_up (n y : Nat) : sts n (y * 2 ^ n) = y := by
  induction n generalizing y with
  | zero => simp [sts]
  | succ n ih =>
    have e : y * 2 ^ (n + 1) = y * 2 ^ n * 2 := by rw [Nat.pow_succ, Nat.mul_assoc]
    rw [sts, e, st_even, ih]
theorem run_eq (s : Nat) (l : List Nat) : run s l = sts (8 * l.length) (s ^^^ num l) := by
  induction l generalizing s with
  | nil => simp [run, num, sts]
  | cons b l ih =>
    have e : 8 * (b :: l).length = 8 + 8 * l.length := by rw [List.length_cons]; omega
    rw [run, ih, e, sts_add, num, ← Nat.xor_assoc, sts_xor 8 (s ^^^ b)]
    congr 2
    exact (sts_up 8 (num l)).symm
theorem run_append (s : Nat) (l m : List Nat) : run s (l ++ m) = run (run s l) m := by
  induction l generalizing s with
  | nil => rfl
  | cons b l ih => exact ih _
theorem run_snoc (s : Nat) (l : List Nat) (b : Nat) : run s (l ++ [b]) = sts 8 (run s l ^^^ b) := run_append s l [b]
theorem run_xor (s u : Nat) (l : List Nat) : run (s ^^^ u) l = run s l ^^^ sts (8 * l.length) u := by
  rw [run_eq, run_eq, Nat.xor_assoc, Nat.xor_comm u, ← Nat.xor_assoc, sts_xor]
theorem run_zeros (s n : Nat) : run s (List.replicate n 0) = sts (8 * n) s := by
  induction n generalizing s with
  | zero => rfl
  | succ n ih =>
    have e : 8 * (n + 1) = 8 + 8 * n := by omega
    rw [List.replicate_succ, run, ih, e, sts_add, Nat.xor_zero]
theorem run_lt {s : Nat} {l : List Nat} (hs : s < 4294967296) (hl : ∀ b ∈ l, b < 256) : run s l < 4294967296 := by
  induction l generalizing s with
  | nil => exact hs
  | cons b l ih => 
    have hb := hl b (by simp)
    exact ih (sts_lt 8 (Nat.xor_lt_two_pow (n := 32) hs (by omega))) (fun x hx => hl x (by simp [hx]))

/-- The sum of a text, from another one on. -/
def on (c : Nat) (l : List Nat) : Nat := run (c ^^^ 4294967295) l ^^^ 4294967295
theorem on_lt {c : Nat} {l : List Nat} (hs : c < 4294967296) (hl : ∀ b ∈ l, b < 256) : on c l < 4294967296 :=
  Nat.xor_lt_two_pow (n := 32) (run_lt (Nat.xor_lt_two_pow (n := 32) hs (by decide)) hl) (by decide)
theorem xor_back (a b : Nat) : (a ^^^ b) ^^^ b = a := by rw [Nat.xor_assoc, Nat.xor_self, Nat.xor_zero]
theorem on_append (c : Nat) (l m : List Nat) : on c (l ++ m) = on (on c l) m := by
  unfold on
  rw [run_append, xor_back]
/-- Two sums put together, the second of so many bytes. -/
def jn (a b n : Nat) : Nat := sts (8 * n) a ^^^ b
theorem jn_lt {a b n : Nat} (ha : a < 4294967296) (hb : b < 4294967296) : jn a b n < 4294967296 :=
  Nat.xor_lt_two_pow (n := 32) (sts_lt _ ha) hb
theorem on_join (l m : List Nat) : on 0 (l ++ m) = jn (on 0 l) (on 0 m) m.length := by
  rw [on_append]
  generalize on 0 l = a
  unfold on jn
  rw [Nat.zero_xor, Nat.xor_comm a, run_xor, Nat.xor_comm (run _ m), Nat.xor_assoc]
theorem not_eq {x : Nat} (h : x < 4294967296) : x ^^^ 4294967295 = 4294967295 - x := by
  have h1 : (~~~ (BitVec.ofNat 32 x)).toNat = (BitVec.ofNat 32 x ^^^ BitVec.allOnes 32).toNat := by rw [BitVec.xor_allOnes]
  rw [BitVec.toNat_not, BitVec.toNat_xor, BitVec.toNat_ofNat, BitVec.toNat_allOnes, Nat.mod_eq_of_lt (by omega)] at h1
  exact h1.symm

/-- Some bits of one byte are turned. -/
def xb (l : List Nat) (i c : Nat) : List Nat := l.set i (l.getD i 0 ^^^ c)
theorem xb_length (l : List Nat) (i c : Nat) : (xb l i c).length = l.length := by simp [xb]
theorem xb_zero (l : List Nat) (i : Nat) : xb l i 0 = l := by
  unfold xb
  rw [Nat.xor_zero]
  by_cases h : i < l.length
  · rw [List.getD_eq_getElem?_getD, List.getElem?_eq_getElem h]; simp
  · rw [List.set_eq_of_length_le (by omega)]
theorem mul_xor (a b n : Nat) : (a ^^^ b) * 2 ^ n = a * 2 ^ n ^^^ b * 2 ^ n := by
  have h := Nat.shiftLeft_xor_distrib (a := a) (b := b) (i := n)
  simpa [Nat.shiftLeft_eq] using h
theorem num_xb (l : List Nat) (i c : Nat) (h : i < l.length) : num (xb l i c) = num l ^^^ c * 2 ^ (8 * i) := by
  induction l generalizing i with
  | nil => simp at h
  | cons b l ih =>
    cases i with
    | zero => 
      simp only [xb, List.set_cons_zero, num, List.getD_cons_zero, Nat.mul_zero, Nat.pow_zero, Nat.mul_one]
      rw [Nat.xor_assoc, Nat.xor_comm c, ← Nat.xor_assoc]
    | succ i =>
      have e : xb (b :: l) (i + 1) c = b :: xb l i c := by simp [xb]
      have e2 : c * 2 ^ (8 * (i + 1)) = c * 2 ^ (8 * i) * 256 := by
        have : 8 * (i + 1) = 8 * i + 8 := by omega
        rw [this, Nat.pow_add, ← Nat.mul_assoc]
      rw [e, num, ih i (by simpa using h), num, e2, Nat.xor_assoc]
      congr 1
      exact mul_xor _ _ 8
/-- A burst: from a bit on, bit by bit, as far as told. -/
def bl : List Nat → Nat → Nat → Nat → List Nat
  | l, _, _, 0 => l
  | l, p, bits, f + 1 => bl (xb l (p / 8) (bits % 2 * 2 ^ (p % 8))) (p + 1) (bits / 2) f
theorem bl_length (l : List Nat) (p bits f : Nat) : (bl l p bits f).length = l.length := by
  induction f generalizing l p bits with
  | zero => rfl
  | succ f ih => rw [bl, ih, xb_length]
theorem bl_none (l : List Nat) (p f : Nat) : bl l p 0 f = l := by
  induction f generalizing l p with
  | zero => rfl
  | succ f ih =>
    rw [bl]
    simp only [Nat.zero_mod, Nat.zero_mul, Nat.zero_div]
    rw [xb_zero, ih]
theorem low_xor (b z : Nat) (h : b < 2) : b ^^^ z * 2 = b + z * 2 := by
  have h1 := xor_div2 b (z * 2)
  have h2 := xor_mod2 b (z * 2)
  have h3 : b / 2 = 0 := by omega
  rw [h3, Nat.zero_xor, Nat.mul_div_cancel _ (by omega)] at h1
  omega
theorem mod_low (x f : Nat) : x % 2 ^ (f + 1) = x % 2 ^^^ x / 2 % 2 ^ f * 2 := by
  rw [low_xor _ _ (by omega), Nat.pow_succ, Nat.mul_comm (2 ^ f) 2, Nat.mod_mul]
  omega
theorem num_bl (l : List Nat) (p bits f : Nat) (h : p + f ≤ 8 * l.length) : num (bl l p bits f) = num l ^^^ bits % 2 ^ f * 2 ^ p := by
  induction f generalizing l p bits with
  | zero => simp [bl, Nat.mod_one]
  | succ f ih =>
    have e : bits % 2 * 2 ^ (p % 8) * 2 ^ (8 * (p / 8)) = bits % 2 * 2 ^ p := by
      rw [Nat.mul_assoc, ← Nat.pow_add]
      congr 2
      omega
    have e2 : bits / 2 % 2 ^ f * 2 * 2 ^ p = bits / 2 % 2 ^ f * 2 ^ (p + 1) := by
      rw [Nat.mul_assoc, Nat.pow_succ, Nat.mul_comm 2]
    rw [bl, ih _ _ _ (by rw [xb_length]; omega), num_xb _ _ _ (by omega), e, mod_low, mul_xor, e2, Nat.xor_assoc]
theorem up_mod (n : Nat) : n * 256 % 2 ^ 8 = 0 := by omega
theorem up_div (n : Nat) : n * 256 / 2 ^ 8 = n := by omega
theorem num_inj {l m : List Nat} (hl : ∀ b ∈ l, b < 256) (hm : ∀ b ∈ m, b < 256) (hn : l.length = m.length) (h : num l = num m) : l = m := by
  induction l generalizing m with
  | nil => exact (List.eq_nil_of_length_eq_zero hn.symm).symm
  | cons b l ih =>
    cases m with
    | nil => simp at hn
    | cons c m =>
      simp only [num] at h
      have hb := hl b (by simp)
      have hc := hm c (by simp)
      have h1 := congrArg (· % 2 ^ 8) h
      have h2 := congrArg (· / 2 ^ 8) h
      simp only [Nat.xor_mod_two_pow, Nat.xor_div_two_pow] at h1 h2
      have x1 : b / 2 ^ 8 = 0 := by omega
      have x2 : c / 2 ^ 8 = 0 := by omega
      rw [up_mod, up_mod, Nat.xor_zero, Nat.xor_zero] at h1
      rw [up_div, up_div, x1, x2, Nat.zero_xor, Nat.zero_xor] at h2
      have hbc : b = c := by omega
      rw [hbc, ih (fun x hx => hl x (by simp [hx])) (fun x hx => hm x (by simp [hx])) (by simpa using hn) h2]
theorem xb_small {l : List Nat} (hl : ∀ b ∈ l, b < 256) {i c : Nat} (hc : c < 256) : ∀ b ∈ xb l i c, b < 256 := by
  intro b hb
  unfold xb at hb
  rcases List.mem_or_eq_of_mem_set hb with h | h
  · exact hl b h
  · subst h
    refine Nat.xor_lt_two_pow (n := 8) ?_ hc
    rw [List.getD_eq_getElem?_getD]
    cases e : l[i]? with
    | none => show 0 < 2 ^ 8; decide
    | some z => exact hl z (List.mem_of_getElem? e)
theorem bit_small (x p : Nat) : x % 2 * 2 ^ (p % 8) < 256 := by
  have h1 : 2 ^ (p % 8) ≤ 2 ^ 7 := Nat.pow_le_pow_right (by omega) (by omega)
  rcases Nat.mod_two_eq_zero_or_one x with h | h <;> rw [h] <;> omega
theorem bl_small {l : List Nat} (hl : ∀ b ∈ l, b < 256) (p bits f : Nat) : ∀ b ∈ bl l p bits f, b < 256 := by
  induction f generalizing l p bits with
  | zero => exact hl
  | succ f ih => exact ih (xb_small hl (bit_small _ _)) _ _
/-- The burst over a whole text. -/
def burst (l : List Nat) (p bits : Nat) : List Nat := bl l p bits (8 * l.length - p)
theorem burst_length (l : List Nat) (p bits : Nat) : (burst l p bits).length = l.length := bl_length _ _ _ _
theorem burst_small {l : List Nat} (hl : ∀ b ∈ l, b < 256) (p bits : Nat) : ∀ b ∈ burst l p bits, b < 256 := bl_small hl _ _ _
theorem num_burst (l : List Nat) (p bits : Nat) (hp : p ≤ 8 * l.length) : num (burst l p bits) = num l ^^^ bits % 2 ^ (8 * l.length - p) * 2 ^ p := num_bl _ _ _ _ (by omega)
theorem split_len {n p : Nat} (h : p ≤ n) : n = p + (n - p) := by omega
theorem burst_back {l : List Nat} (hl : ∀ b ∈ l, b < 256) (p bits : Nat) (hp : p ≤ 8 * l.length) : burst (burst l p bits) p bits = l := by
  refine num_inj (burst_small (burst_small hl _ _) _ _) hl (by rw [burst_length, burst_length]) ?_
  rw [num_burst _ _ _ (by rw [burst_length]; exact hp), num_burst _ _ _ hp, burst_length, xor_back]
/-- No burst of 32 bits leaves the sum as it was. -/
theorem burst_told {l : List Nat} (hl : ∀ b ∈ l, b < 256) (p bits : Nat) (hp : p ≤ 8 * l.length) (hb : bits < 4294967296) (h : on 0 l = on 0 (burst l p bits)) : l = burst l p bits := by
  refine num_inj hl (burst_small hl _ _) (burst_length _ _ _).symm ?_
  rw [num_burst _ _ _ hp]
  unfold on at h
  generalize 4294967295 = F at h
  have h1 := congrArg (· ^^^ F) h
  simp only [xor_back] at h1
  rw [run_eq, run_eq, burst_length, num_burst _ _ _ hp, ← Nat.xor_assoc, sts_xor _ (_ ^^^ _) (_ * _)] at h1
  have h2 : sts (8 * l.length) (bits % 2 ^ (8 * l.length - p) * 2 ^ p) = 0 := by
    generalize sts (8 * l.length) (bits % 2 ^ (8 * l.length - p) * 2 ^ p) = z at h1 ⊢
    generalize sts (8 * l.length) (0 ^^^ F ^^^ num l) = y at h1
    have := congrArg (y ^^^ ·) h1
    simp only [← Nat.xor_assoc, Nat.xor_self, Nat.zero_xor] at this
    exact this.symm
  generalize 8 * l.length = n at hp h2 ⊢
  obtain ⟨m, rfl⟩ : ∃ m, n = p + m := ⟨n - p, by omega⟩
  rw [Nat.add_sub_cancel_left, sts_add, sts_up] at h2
  have h3 := sts_inj _ (Nat.lt_of_le_of_lt (Nat.mod_le _ _) hb) h2
  rw [Nat.add_sub_cancel_left, h3, Nat.zero_mul, Nat.xor_zero]
end Crc
end Go.Proofs.Ytpgmocogffolaaa
