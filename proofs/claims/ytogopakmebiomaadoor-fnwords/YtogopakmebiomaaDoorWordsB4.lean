/-
  The shortest rule of syndromes that come of few wrong places tells these places (Berlekamp, Massey): plain mathematics. No condition. Which places of a word a rule tells: by values at inverted points, and by division; that both tell the same. Plain mathematics. No condition. Slices of slices of integers: what is read (RdM), what a call owns (Mat: the outer row and every inner one lie in blocks of their own, from lo up to hi), what a change between two numbers leaves alone (Chg), and what a law holds in its hands (Hands). No condition; no call is walked here. The laws' own small functions over rows of integers (how great, copied, compared, marked, looked whether the marks are held), call by call. Each contract says what it asks. Which rows of rows are matrices: the program's function and its model's, call by call: both answer 'goodM'. No condition.
-/
import Derived.Test.YtogopakmebiomaaDoorWordsB3
import Derived.Test.YtogopakmebiomaaDoorWordsB2
namespace Go.Proofs.YtogopakmebiomaaDoor
namespace Gf

/-- The whole sum of c's i times s's j - i. -/
def cvl (c s : Nat → Nat) (j : Nat) : Nat := dsc c s j (j + 1)
theorem dsc_lin {a b s : Nat → Nat} {f j : Nat} (ha : ∀ i, a i < 256) (hb : ∀ i, b i < 256) (hs : ∀ i, s i < 256) (hf : f < 256) (n : Nat) :
    dsc (fun i => a i ^^^ mul f (b i)) s j n = dsc a s j n ^^^ mul f (dsc b s j n) := by
  induction n with
  | zero => rw [dsc, dsc, dsc, mul_zero]; rfl
  | succ n ih => rw [dsc, dsc, dsc, ih, mul_xor_a _ _ _ (ha n) (mul_lt hf), mul_assoc _ _ _ hf (hb n) (hs _), mul_xor_b, xor4]
theorem dsc_low {b s : Nat → Nat} {m j : Nat} (hs : ∀ i, s i < 256) : ∀ n, n ≤ m → dsc (shf b m) s j n = 0
  | 0, _ => rfl
  | n + 1, h => by rw [dsc, dsc_low hs n (by omega), shf, if_neg (by omega), zero_mul (hs _)]; rfl
theorem dsc_shf {b s : Nat → Nat} {m j : Nat} (hs : ∀ i, s i < 256) (hm : m ≤ j) : ∀ n, dsc (shf b m) s j (m + n) = dsc b s (j - m) n
  | 0 => dsc_low hs m (Nat.le_refl _)
  | n + 1 => by
    rw [← Nat.add_assoc, dsc, dsc, dsc_shf hs hm n, shf, if_pos (by omega), Nat.add_sub_cancel_left, show j - (m + n) = j - m - n from by omega]
theorem cvl_shf {b s : Nat → Nat} {m j : Nat} (hs : ∀ i, s i < 256) : cvl (shf b m) s j = if m ≤ j then cvl b s (j - m) else 0 := by
  unfold cvl
  by_cases h : m ≤ j
  · rw [if_pos h, show j + 1 = m + (j - m + 1) from by omega]
    exact dsc_shf hs h _
  · rw [if_neg h]
    exact dsc_low hs _ (by omega)
theorem cvl_lt {c s : Nat → Nat} (hc : ∀ i, c i < 256) (j : Nat) : cvl c s j < 256 := dsc_lt hc _
theorem cvl_ext {c c' s : Nat → Nat} (h : ∀ i, c i = c' i) (j : Nat) : cvl c s j = cvl c' s j := dsc_congr h _
theorem bmD_cvl {s : List Nat} {n k : Nat} {q : Bm} (hs : AllLt s) (h : BmI n k q) : bmD s k q = cvl (fn q.c) (fn s) k := by
  unfold bmD cvl
  have := dsc_more (c := fn q.c) (s := fn s) (k := k) hs (q.long + 1) (k - q.long) (fun i hi => h.top i (by omega))
  rw [← this]
  congr 1
  have := h.lk
  omega
theorem bmC_cvl {s : List Nat} {n k : Nat} {q : Bm} (hs : AllLt s) (h : BmI n k q) (hk : k < n) (j : Nat) :
    cvl (fn (bmC s k q)) (fn s) j = cvl (fn q.c) (fn s) j ^^^ mul (mul (bmD s k q) (inv q.last)) (if q.m ≤ j then cvl (fn q.b) (fn s) (j - q.m) else 0) := by
  rw [cvl_ext (fun i => bmC_fn h hk i) j]
  unfold cvl
  rw [dsc_lin (a := fn q.c) (b := shf (fn q.b) q.m) (s := fn s) h.cl (fun i => by unfold shf; split; exact h.bl _; omega) hs (mul_lt (bmD_lt h.cl))]
  congr 2
  exact cvl_shf hs
/-- What the rule has met, and what the old rule has missed. -/
structure BmG (s : List Nat) (k : Nat) (q : Bm) : Prop where
  met : ∀ j, q.long ≤ j → j < k → cvl (fn q.c) (fn s) j = 0
  old : (q.long = 0 ∧ q.m = k + 1) ∨ (q.m ≤ k ∧ cvl (fn q.b) (fn s) (k - q.m) = q.last ∧ ∀ j, k + 1 ≤ j + q.m + q.long → j + q.m < k → cvl (fn q.b) (fn s) j = 0)
theorem bm_gen {s : List Nat} (hs : AllLt s) : ∀ k, k ≤ s.length → BmG s k (bmTo s k)
  | 0, _ => ⟨fun j _ h => by omega, .inl ⟨rfl, rfl⟩⟩
  | k + 1, hk => by
    have g := bm_gen hs k (by omega)
    have h := bm_inv hs k (by omega)
    rw [bmTo]
    generalize bmTo s k = q at g h
    have hd := bmD_cvl hs h
    have hC := bmC_cvl hs h hk
    have hlk := h.lk
    have hm1 := h.m1
    unfold bmStep
    by_cases h0 : bmD s k q = 0
    · rw [if_pos h0]
      refine ⟨fun j h1 h2 => ?_, ?_⟩
      · by_cases hj : j = k
        · subst hj; rw [← hd]; exact h0
        · exact g.met j h1 (by omega)
      · rcases g.old with ⟨a, b⟩ | ⟨a, b, c⟩
        · exact .inl ⟨a, by show q.m + 1 = k + 1 + 1; omega⟩
        · refine .inr ⟨by show q.m + 1 ≤ k + 1; omega, ?_, fun j h1 h2 => c j (by have : k + 1 + 1 ≤ j + (q.m + 1) + q.long := h1; omega) (by have : j + (q.m + 1) < k + 1 := h2; omega)⟩
          show cvl (fn q.b) (fn s) (k + 1 - (q.m + 1)) = q.last
          rw [show k + 1 - (q.m + 1) = k - q.m from by omega]
          exact b
    · rw [if_neg h0]
      have fix : ∀ j, q.long ≤ j → k + 1 - q.long ≤ j → j < k + 1 → cvl (fn (bmC s k q)) (fn s) j = 0 := by
        intro j h1 h2 h3
        rw [hC]
        rcases g.old with ⟨a, b⟩ | ⟨a, b, c⟩
        · omega
        · by_cases hj : j = k
          · subst hj
            rw [if_pos a, b, ← hd, mul_assoc _ _ _ (bmD_lt h.cl) (inv_lt _) h.ll, mul_comm (inv q.last) _ (inv_lt _) h.ll, mul_inv _ h.ll h.l0, mul_one _ (bmD_lt h.cl), Nat.xor_self]
          · rw [g.met j h1 (by omega)]
            by_cases hmj : q.m ≤ j
            · rw [if_pos hmj, c (j - q.m) (by omega) (by omega), mul_zero]; rfl
            · rw [if_neg hmj, mul_zero]; rfl
      by_cases h2 : k < 2 * q.long
      · rw [if_pos h2]
        refine ⟨fun j h3 h4 => fix j h3 (by have : q.long ≤ j := h3; omega) h4, ?_⟩
        rcases g.old with ⟨a, b⟩ | ⟨a, b, c⟩
        · omega
        · refine .inr ⟨by show q.m + 1 ≤ k + 1; omega, ?_, fun j h1 h2 => c j (by have : k + 1 + 1 ≤ j + (q.m + 1) + q.long := h1; omega) (by have : j + (q.m + 1) < k + 1 := h2; omega)⟩
          show cvl (fn q.b) (fn s) (k + 1 - (q.m + 1)) = q.last
          rw [show k + 1 - (q.m + 1) = k - q.m from by omega]
          exact b
      · rw [if_neg h2]
        refine ⟨fun j h3 h4 => fix j (by have : k + 1 - q.long ≤ j := h3; omega) h3 h4, .inr ⟨by show 1 ≤ k + 1; omega, ?_, fun j h1 h3 => ?_⟩⟩
        · show cvl (fn (cutNl q.c)) (fn s) (k + 1 - 1) = bmD s k q
          rw [cvl_ext (cutNl_fn q.c), Nat.add_sub_cancel, hd]
        · show cvl (fn (cutNl q.c)) (fn s) j = 0
          rw [cvl_ext (cutNl_fn q.c)]
          have h1' : k + 1 + 1 ≤ j + 1 + (k + 1 - q.long) := h1
          have h3' : j + 1 < k + 1 := h3
          exact g.met j (by omega) (by omega)

/-- The rule's value at a point, the highest first. -/
def rv (c : Nat → Nat) (x l : Nat) : Nat → Nat
  | 0 => 0
  | n + 1 => rv c x l n ^^^ mul (c n) (px x (l - n))
theorem rv_lt {c : Nat → Nat} {x l : Nat} (hc : ∀ i, c i < 256) (n : Nat) : rv c x l n < 256 := by
  induction n with
  | zero => show 0 < 256; omega
  | succ n ih => exact xor_lt ih (mul_lt (hc n))
theorem vs_scale {z X : Nat → Nat} {f k : Nat} (hz : ∀ i, z i < 256) (hf : f < 256) (n : Nat) : vs (fun i => mul f (z i)) X k n = mul f (vs z X k n) := by
  induction n with
  | zero => rw [vs, vs, mul_zero]
  | succ n ih => rw [vs, vs, ih, mul_xor_b, mul_assoc _ _ _ hf (hz n) (px_lt _ _)]
theorem vs_add {y z X : Nat → Nat} {k : Nat} (hy : ∀ i, y i < 256) (hz : ∀ i, z i < 256) (n : Nat) : vs (fun i => y i ^^^ z i) X k n = vs y X k n ^^^ vs z X k n := by
  induction n with
  | zero => show 0 = 0 ^^^ 0; rfl
  | succ n ih => rw [vs, vs, vs, ih, mul_xor_a _ _ _ (hy n) (hz n), xor4]
/-- Where the syndromes are sums of multiples of powers, what a rule misses is such a sum, too. -/
theorem cvl_vs {c s e X : Nat → Nat} {n l : Nat} {m : Nat} (hc : ∀ i, c i < 256) (he : ∀ i, e i < 256) (hX : ∀ i, X i < 256) (hsv : ∀ k, k < m → s k = vs e X k n) (j : Nat) (hlj : l ≤ j) (hjm : j < m) :
    ∀ i, i ≤ l + 1 → dsc c s j i = vs (fun a => mul (e a) (rv c (X a) l i)) X (j - l) n
  | 0, _ => by
    rw [dsc]
    rw [vs_congr (z' := fun _ => 0) (X' := X) n (fun a _ => ⟨by rw [rv, mul_zero], rfl⟩), vs_nil]
  | i + 1, hi => by
    rw [dsc, cvl_vs hc he hX hsv j hlj hjm i (by omega), hsv (j - i) (by omega)]
    have e1 : mul (c i) (vs e X (j - i) n) = vs (fun a => mul (e a) (mul (c i) (px (X a) (l - i)))) X (j - l) n := by
      rw [← vs_scale he (hc i)]
      clear hsv
      induction n with
      | zero => rfl
      | succ n ih =>
        rw [vs, vs, ih]
        congr 1
        rw [show j - i = (l - i) + (j - l) from by omega, px_add (hX n), mul_assoc _ _ _ (hc i) (he n) (mul_lt (px_lt _ _)), mul_left _ _ _ (hc i) (he n) (mul_lt (px_lt _ _)), ← mul_assoc (c i) _ _ (hc i) (px_lt _ _) (px_lt _ _), ← mul_assoc (e n) _ _ (he n) (mul_lt (hc i)) (px_lt _ _)]
    rw [e1, ← vs_add (fun a => mul_lt (he a)) (fun a => mul_lt (he a))]
    exact vs_congr n (fun a _ => ⟨by rw [rv, mul_xor_b], rfl⟩)
theorem miss_vs {s : List Nat} {k N : Nat} {q : Bm} {e X : Nat → Nat} {n : Nat} (hs : AllLt s) (h : BmI N k q) (he : ∀ i, e i < 256) (hX : ∀ i, X i < 256) (hsv : ∀ k, k < s.length → fn s k = vs e X k n) (j : Nat) (hlj : q.long ≤ j) (hjm : j < s.length) :
    cvl (fn q.c) (fn s) j = vs (fun a => mul (e a) (rv (fn q.c) (X a) q.long (q.long + 1))) X (j - q.long) n := by
  rw [← cvl_vs (c := fn q.c) (s := fn s) (l := q.long) (m := s.length) h.cl he hX hsv j hlj hjm (q.long + 1) (Nat.le_refl _)]
  unfold cvl
  have := dsc_more (c := fn q.c) (s := fn s) (k := j) hs (q.long + 1) (j - q.long) (fun i hi => h.top i (by omega))
  rw [← this]
  congr 1
  omega
theorem bm_short {s : List Nat} {e X : Nat → Nat} {n : Nat} (hs : AllLt s) (he : ∀ i, e i < 256) (hX : ∀ i, X i < 256) (hu : ∀ i j, i < n → j < n → i ≠ j → X i ≠ X j) (hsv : ∀ k, k < s.length → fn s k = vs e X k n) :
    ∀ k, k ≤ s.length → (bmTo s k).long ≤ n
  | 0, _ => Nat.zero_le _
  | k + 1, hk => by
    have ih := bm_short hs he hX hu hsv k (by omega)
    have g := bm_gen hs k (by omega)
    have h := bm_inv hs k (by omega)
    rw [bmTo]
    generalize bmTo s k = q at ih g h
    have hd := bmD_cvl hs h
    have hlk := h.lk
    unfold bmStep
    by_cases h0 : bmD s k q = 0
    · rw [if_pos h0]; exact ih
    · rw [if_neg h0]
      by_cases h2 : k < 2 * q.long
      · rw [if_pos h2]; exact ih
      · rw [if_neg h2]
        show k + 1 - q.long ≤ n
        by_cases hn : n + q.long ≤ k
        · exfalso
          apply h0
          rw [hd, miss_vs hs h he hX hsv k hlk (by omega)]
          refine vs_far (fun a => mul_lt (he a)) hX hu (fun i hi => ?_) _
          have := miss_vs hs h he hX hsv (q.long + i) (by omega) (by omega)
          rw [g.met (q.long + i) (by omega) (by omega), Nat.add_sub_cancel_left] at this
          exact this.symm
        · omega
/-- At the end each point is one where the rule is nought. -/
theorem bm_roots {s : List Nat} {e X : Nat → Nat} {n : Nat} (hs : AllLt s) (he : ∀ i, e i < 256) (hX : ∀ i, X i < 256) (hu : ∀ i j, i < n → j < n → i ≠ j → X i ≠ X j) (hsv : ∀ k, k < s.length → fn s k = vs e X k n) (hn : 2 * n ≤ s.length) (h0 : ∀ i, i < n → e i ≠ 0) :
    (bmTo s s.length).long ≤ n ∧ ∀ i, i < n → rv (fn (bmTo s s.length).c) (X i) (bmTo s s.length).long ((bmTo s s.length).long + 1) = 0 := by
  have hl := bm_short hs he hX hu hsv s.length (Nat.le_refl _)
  have g := bm_gen hs s.length (Nat.le_refl _)
  have h := bm_inv hs s.length (Nat.le_refl _)
  refine ⟨hl, fun i hi => ?_⟩
  generalize bmTo s s.length = q at hl g h
  have hz := vand_zero n (fun a => mul (e a) (rv (fn q.c) (X a) q.long (q.long + 1))) X (fun a => mul_lt (he a)) hX hu (fun k hk => by
    have := miss_vs hs h he hX hsv (q.long + k) (by omega) (by omega)
    rw [g.met (q.long + k) (by omega) (by omega), Nat.add_sub_cancel_left] at this
    exact this.symm) i hi
  rcases mul_eq_zero _ _ (he i) (rv_lt h.cl _) hz with e1 | e1
  · exact absurd e1 (h0 i hi)
  · exact e1
/-- What is nought with the highest first is nought at the inverted point. -/
theorem rv_sp {c : Nat → Nat} {x y l : Nat} (hc : ∀ i, c i < 256) (hx : x < 256) (hy : y < 256) (hxy : mul x y = 1) : ∀ n, n ≤ l + 1 → mul (px y l) (rv c x l n) = sp c y n
  | 0, _ => by rw [rv, sp, mul_zero]
  | n + 1, hn => by
    rw [rv, sp, mul_xor_b, rv_sp hc hx hy hxy n (by omega)]
    congr 1
    rw [mul_left _ _ _ (px_lt _ _) (hc n) (px_lt _ _)]
    congr 1
    have e : px y l = mul (px y n) (px y (l - n)) := by rw [← px_add hy, show n + (l - n) = l from by omega]
    rw [e, mul_assoc _ _ _ (px_lt _ _) (px_lt _ _) (px_lt _ _), mul_comm (px y (l - n)) _ (px_lt _ _) (px_lt _ _), ← px_mul hx hy, hxy, px_one, mul_one _ (px_lt _ _)]

end Gf
end Go.Proofs.YtogopakmebiomaaDoor

namespace Go.Proofs.YtogopakmebiomaaDoor
namespace Gf

/-- 2 to the p, and its inverse. -/
def p2 (p : Nat) : Nat := pow 2 p
def ip (p : Nat) : Nat := inv (pow 2 p)
theorem p2_tab : allB 64 (fun p => p2 p != 0 && (p2 p == px 2 p)) = true := by decide +kernel
theorem p2_ne {p : Nat} (h : p < 64) : p2 p ≠ 0 := by
  have := allB_of p2_tab p h
  simp at this
  exact this.1
theorem p2_px {p : Nat} (h : p < 64) : p2 p = px 2 p := by
  have := allB_of p2_tab p h
  simp at this
  exact this.2
theorem p2_lt (p : Nat) : p2 p < 256 := pow_lt _ _
theorem ip_lt (p : Nat) : ip p < 256 := inv_lt _
theorem p2_ip {p : Nat} (h : p < 64) : mul (p2 p) (ip p) = 1 := mul_inv _ (p2_lt p) (p2_ne h)
theorem p2_inj_tab : allB 24 (fun p => allB 24 (fun q => p == q || p2 p != p2 q)) = true := by decide +kernel
theorem p2_inj {p q : Nat} (hp : p < 24) (hq : q < 24) (h : p2 p = p2 q) : p = q := by
  have := allB_of (allB_of p2_inj_tab p hp) q hq
  simp [h] at this
  exact this
theorem cross_ne {p q : Nat} (hp : p < 24) (hq : q < 24) (h : p ≠ q) : mul (p2 p) (ip q) ^^^ 1 ≠ 0 := by
  intro e
  have e1 := xor_zero_eq e
  apply h
  apply p2_inj hp hq
  have e2 : mul (mul (p2 p) (ip q)) (p2 q) = mul 1 (p2 q) := by rw [e1]
  rw [mul_assoc _ _ _ (p2_lt p) (ip_lt q) (p2_lt q), mul_comm (ip q) _ (ip_lt q) (p2_lt q), p2_ip (by omega), mul_one _ (p2_lt p), one_mul _ (p2_lt q)] at e2
  exact e2

/-- What a place divides by. -/
def dvP (p : Nat) : List Int := [1, ((p2 p : Nat) : Int)]
theorem dvP_good {p : Nat} (h : p < 64) : goodP (dvP p) = true := by
  have h1 := p2_lt p
  have h2 := p2_ne h
  simp [goodP, dvP, elOk]
  omega
theorem dvP_ev (p x : Nat) (hx : x < 256) : ev x (dvP p) = mul (p2 p) x ^^^ 1 := by
  show mul (mul 0 x ^^^ ((p2 p : Nat) : Int).toNat) x ^^^ (1 : Int).toNat = _
  rw [zero_mul hx, Nat.zero_xor, Int.toNat_natCast]
  rfl

/-- The places below L whose inverted points are roots. -/
def plcN (c : List Int) : Nat → List Int
  | 0 => []
  | p + 1 => if ev (ip p) c = 0 then plcN c p ++ [(p : Int)] else plcN c p
theorem plcN_yes {c : List Int} {p : Nat} (h : ev (ip p) c = 0) : plcN c (p + 1) = plcN c p ++ [(p : Int)] := by rw [plcN, if_pos h]
theorem plcN_no {c : List Int} {p : Nat} (h : ¬ ev (ip p) c = 0) : plcN c (p + 1) = plcN c p := by rw [plcN, if_neg h]
theorem plcN_le (c : List Int) (L : Nat) : (plcN c L).length ≤ L := by
  induction L with
  | zero => exact Nat.le_refl _
  | succ L ih =>
    rw [plcN]
    split
    · rw [List.length_append]; show _ + 1 ≤ _; omega
    · omega
theorem plcN_same {c : List Int} {p : Nat} : ∀ m, (∀ j, p ≤ j → j < p + m → ¬ ev (ip j) c = 0) → plcN c (p + m) = plcN c p
  | 0, _ => rfl
  | m + 1, h => by rw [← Nat.add_assoc, plcN_no (h (p + m) (by omega) (by omega)), plcN_same m (fun j h1 h2 => h j h1 (by omega))]

/-- What is left to divide, behind the places below p: roots from there on are the rule's. -/
structure Lft (c r : List Int) (p : Nat) : Prop where
  good : goodP r = true
  pos : 1 ≤ r.length
  sum : r.length + (plcN c p).length = c.length
  iff : ∀ j, p ≤ j → j < 24 → (ev (ip j) c = 0 ↔ ev (ip j) r = 0)
theorem Lft.start {c : List Int} (h : goodP c = true) (h1 : 1 ≤ c.length) : Lft c c 0 := ⟨h, h1, by simp [plcN], fun _ _ _ => Iff.rfl⟩
theorem div_root {r : List Int} {p : Nat} (hr : goodP r = true) (h2 : 2 ≤ r.length) (hp : p < 24) :
    (divR r (dvP p)).2.2 = true ∧ (divR r (dvP p)).1.length = r.length - 1 ∧ goodP (divR r (dvP p)).1 = true ∧ ((divR r (dvP p)).2.1.length = 0 ↔ ev (ip p) r = 0) ∧
      ((divR r (dvP p)).2.1.length = 0 → ∀ j, j < 24 → j ≠ p → (ev (ip j) r = 0 ↔ ev (ip j) (divR r (dvP p)).1 = 0)) := by
  have hd := dvP_good (p := p) (by omega)
  have hl : (dvP p).length = 2 := rfl
  have hy := divR_yes hr hd (by rw [hl]; omega) (by rw [hl]; omega)
  have hok : (divR r (dvP p)).2.2 = true := by rw [hy]
  obtain ⟨_, _, hq, hrest, hlt, hev⟩ := div_facts hok
  have hql : (divR r (dvP p)).1.length = r.length - 1 := by
    rw [hy]
    show (ci _).length = _
    rw [ci_length, dv_len2, hl]
    omega
  have hrl : (divR r (dvP p)).2.1.length < 2 := hlt
  refine ⟨hok, hql, hq, ?_, ?_⟩
  · have e := hev (ip p) (ip_lt p)
    rw [dvP_ev _ _ (ip_lt p), p2_ip (by omega), Nat.xor_self, zero_mul (by rw [ev_good hq]; exact evn_lt (nat_ltp (goodP_mem hq))), Nat.zero_xor] at e
    rw [← e]
    generalize hR : (divR r (dvP p)).2.1 = R at *
    match R, hrest, hrl with
    | [], _, _ => simp [ev]
    | [v], hg, _ =>
      have h0 := goodP_last hg (by simp)
      have hv := goodP_all hg 0 (by simp)
      simp only [List.length_cons, List.length_nil, Nat.zero_add, Nat.sub_self] at h0
      have h0' : v ≠ 0 := h0
      have hv' : 0 ≤ v ∧ v ≤ 255 := hv
      constructor
      · intro h; simp at h
      · intro h
        exfalso
        have e3 : mul 0 (ip p) ^^^ v.toNat = 0 := h
        rw [zero_mul (ip_lt p), Nat.zero_xor] at e3
        omega
    | _ :: _ :: _, _, h => exact absurd h (by simp)
  · intro h0 j hj hne
    have e := hev (ip j) (ip_lt j)
    have hR : (divR r (dvP p)).2.1 = [] := List.eq_nil_of_length_eq_zero h0
    rw [hR, dvP_ev _ _ (ip_lt j)] at e
    have e' : mul (mul (p2 p) (ip j) ^^^ 1) (ev (ip j) (divR r (dvP p)).1) ^^^ 0 = ev (ip j) r := e
    rw [Nat.xor_zero] at e'
    rw [← e']
    constructor
    · intro h
      rcases mul_eq_zero _ _ (xor_lt (mul_lt (p2_lt p)) (by omega)) (by rw [ev_good hq]; exact evn_lt (nat_ltp (goodP_mem hq))) h with h | h
      · exact absurd h (cross_ne hp hj (fun e => hne e.symm))
      · exact h
    · intro h
      rw [h, mul_zero]
theorem Lft.skip {c r : List Int} {p : Nat} (h : Lft c r p) (hp : p < 24) (h0 : ¬ ev (ip p) r = 0) : Lft c r (p + 1) ∧ plcN c (p + 1) = plcN c p := by
  have e := plcN_no (c := c) (p := p) (fun e => h0 ((h.iff p (Nat.le_refl _) hp).1 e))
  exact ⟨⟨h.good, h.pos, by rw [e]; exact h.sum, fun j h1 h2 => h.iff j (by omega) h2⟩, e⟩
theorem Lft.take {c r : List Int} {p : Nat} (h : Lft c r p) (hp : p < 24) (h2 : 2 ≤ r.length) (h0 : (divR r (dvP p)).2.1.length = 0) : Lft c (divR r (dvP p)).1 (p + 1) ∧ plcN c (p + 1) = plcN c p ++ [(p : Int)] := by
  obtain ⟨_, hl, hg, hi, hj⟩ := div_root h.good h2 hp
  have e := plcN_yes (c := c) (p := p) ((h.iff p (Nat.le_refl _) hp).2 (hi.1 h0))
  refine ⟨⟨hg, by omega, ?_, fun j h1 h3 => (h.iff j (by omega) h3).trans (hj h0 j h3 (by omega))⟩, e⟩
  rw [e, List.length_append, hl]
  have := h.sum
  show r.length - 1 + (_ + 1) = _
  omega
def rtR (c : List Int) (L : Nat) : List Int × Bool := if (plcN c L).length = c.length - 1 then (plcN c L, true) else ([], false)
theorem Lft.done {c r : List Int} {p L : Nat} (h : Lft c r p) (h1 : r.length = 1) (hpL : p ≤ L) (hL : L ≤ 24) : rtR c L = (plcN c p, true) := by
  have hr : ∀ x, x < 256 → ¬ ev x r = 0 := by
    intro x hx
    have hg := h.good
    match r, h1, hg with
    | [v], _, hg =>
      have h0 : v ≠ 0 := goodP_last hg (by simp)
      have hv : 0 ≤ v ∧ v ≤ 255 := goodP_all hg 0 (by simp)
      show ¬ mul 0 x ^^^ v.toNat = 0
      rw [zero_mul hx, Nat.zero_xor]
      omega
  have e := plcN_same (c := c) (p := p) (L - p) (fun j h3 h4 => fun e => hr _ (ip_lt j) ((h.iff j h3 (by omega)).1 e))
  rw [show p + (L - p) = L from by omega] at e
  unfold rtR
  rw [e, if_pos (by have := h.sum; omega)]
theorem Lft.fail {c r : List Int} {L : Nat} (h : Lft c r L) (h1 : 2 ≤ r.length) : rtR c L = ([], false) := by
  unfold rtR
  rw [if_neg (by have := h.sum; omega)]

end Gf
end Go.Proofs.YtogopakmebiomaaDoor

namespace Go.Proofs.YtogopakmebiomaaDoor
open Go.RowKit

theorem infoRow : (Tryd.prog.info? 22).map (fun i => (i.zero, i.size, i.bytes)) = some (some (.slice none 0 0), 1, 24) := by kernel_rfl
theorem infoRowSize : (Tryd.prog.info? 22).map (·.size) = some 1 := by kernel_rfl
abbrev nilRow : Value := .slice none 0 0

/-- The value v is a slice of slices that reads as these rows, in this world. -/
def RdM (w : World) (v : Value) (m : List (List Int)) : Prop :=
  ∃ a cap, v = .slice a m.length cap ∧ m.length ≤ cap ∧ (cap ≤ maxLen ∧ (a = none → cap = 0)) ∧
    (m = [] ∨ ∃ b off, a = some ⟨b, off, none⟩ ∧ b < w.heap.size ∧ ∀ i, i < m.length → ∃ u, w.cell? ⟨b, off + i, none⟩ = some u ∧ Rd w u (m.getD i []))
theorem RdM.below {w w' : World} {v : Value} {m : List (List Int)} (h : RdM w v m) (hb : Below w.heap.size w w') : RdM w' v m := by
  obtain ⟨a, cap, rfl, h1, h2, h3⟩ := h
  refine ⟨a, cap, rfl, h1, h2, ?_⟩
  rcases h3 with h3 | ⟨b, off, rfl, hlt, hc⟩
  · exact .inl h3
  · refine .inr ⟨b, off, rfl, Nat.lt_of_lt_of_le hlt hb.size, fun i hi => ?_⟩
    obtain ⟨u, hu, hr⟩ := hc i hi
    exact ⟨u, (hb.cell (p := ⟨b, off + i, none⟩) hlt).trans hu, hr.below hb⟩
theorem RdM.row {w : World} {a : Option Addr} {n cap : Nat} {m : List (List Int)} (h : RdM w (.slice a n cap) m) (i : Nat) (hi : i < m.length) :
    ∃ b off u, a = some ⟨b, off, none⟩ ∧ w.cell? ⟨b, off + i, none⟩ = some u ∧ Rd w u (m.getD i []) := by
  obtain ⟨a', cap', hv, _, _, h3⟩ := h
  simp only [Value.slice.injEq] at hv
  obtain ⟨rfl, rfl, rfl⟩ := hv
  rcases h3 with h3 | ⟨b, off, rfl, hlt, hc⟩
  · subst h3; simp at hi
  · obtain ⟨u, hu, hr⟩ := hc i hi
    exact ⟨b, off, u, rfl, hu, hr⟩

/-- Nothing but blocks from lo up to hi (and new ones) is changed. -/
structure Chg (lo hi : Nat) (w w' : World) : Prop where
  os : w'.os = w.os
  tape : w'.tape = w.tape
  output : w'.output = w.output
  size : w.heap.size ≤ w'.heap.size
  block : ∀ k, k < w.heap.size → (k < lo ∨ hi ≤ k) → w'.heap[k]? = w.heap[k]?
theorem Chg.refl (lo hi : Nat) (w : World) : Chg lo hi w w := ⟨rfl, rfl, rfl, Nat.le_refl _, fun _ _ _ => rfl⟩
theorem Chg.trans {lo hi : Nat} {a b c : World} (h : Chg lo hi a b) (k : Chg lo hi b c) : Chg lo hi a c :=
  ⟨k.os.trans h.os, k.tape.trans h.tape, k.output.trans h.output, Nat.le_trans h.size k.size, fun i hi' ho => (k.block i (Nat.lt_of_lt_of_le hi' h.size) ho).trans (h.block i hi' ho)⟩
theorem Chg.ofBelow {lo hi : Nat} {w w' : World} (h : Below w.heap.size w w') : Chg lo hi w w' := ⟨h.os, h.tape, h.output, h.size, fun k hk _ => h.block k hk⟩
theorem Chg.ofGrown {lo hi : Nat} {w w' : World} {row : Option Nat} (h : w.grownBy w' row) (hr : ∀ k, row = some k → lo ≤ k ∧ k < hi) : Chg lo hi w w' :=
  ⟨h.os, h.tape, h.output, h.size, fun k hk ho => h.block k hk (fun e => by have := hr k e.symm; omega)⟩
theorem Chg.wider {lo hi lo' hi' : Nat} {w w' : World} (h : Chg lo hi w w') (h1 : lo' ≤ lo) (h2 : hi ≤ hi') : Chg lo' hi' w w' :=
  ⟨h.os, h.tape, h.output, h.size, fun k hk ho => h.block k hk (by omega)⟩
/-- What was new in the first world's eyes may be changed at will. -/
theorem Chg.below {lo hi B : Nat} {w w' : World} (h : Chg lo hi w w') (h1 : B ≤ lo) (h2 : B ≤ w.heap.size) : Below B w w' :=
  ⟨h.os, h.tape, h.output, h.size, fun k hk => h.block k (by omega) (.inl (by omega))⟩
theorem Below.thenChg {lo hi : Nat} {w w1 w2 : World} (h : Below w.heap.size w w1) (k : Chg lo hi w1 w2) (hl : w.heap.size ≤ lo) : Below w.heap.size w w2 := h.trans (k.below hl h.size)

theorem Own.chg {w w' : World} {lo hi a b : Nat} {v : Value} {xs : List Int} (h : Own w lo v xs) (ht : ∀ k, v.ownBlock = some k → k < hi) (hc : Chg a b w w') (hd : hi ≤ a ∨ b ≤ lo) : Own w' lo v xs := by
  refine ⟨h.1, ?_⟩
  rcases h.2 with hn | ⟨g, cap, cur, rfl, hb', hg, rest⟩
  · exact .inl hn
  · have := ht g rfl
    exact .inr ⟨g, cap, cur, rfl, hb', by rw [hc.block g (Array.getElem?_eq_some_iff.1 hg).1 (by omega)]; exact hg, rest⟩
theorem Own.top {w : World} {lo : Nat} {v : Value} {xs : List Int} (h : Own w lo v xs) : ∀ k, v.ownBlock = some k → k < w.heap.size := fun k hk => (World.ownsRow.lt h k hk).2

/-- The value v is a slice of slices of the call's own: its rows' values are vs, they hold m. -/
structure MatV (w : World) (lo hi : Nat) (v : Value) (vs : List Value) (m : List (List Int)) : Prop where
  len : vs.length = m.length
  head : w.ownsRow lo 22 1 v m.length vs
  row : ∀ i, i < m.length → Own w lo (vs.getD i nilRow) (m.getD i [])
  top : ∀ k, v.ownBlock = some k → k < hi
  tops : ∀ i k, i < m.length → (vs.getD i nilRow).ownBlock = some k → k < hi
  apart : ∀ i j, i < m.length → j < m.length → i ≠ j → (vs.getD i nilRow).ownBlock = none ∨ (vs.getD i nilRow).ownBlock ≠ (vs.getD j nilRow).ownBlock
def Mat (w : World) (lo hi : Nat) (v : Value) (m : List (List Int)) : Prop := ∃ vs, MatV w lo hi v vs m

/-- A row of slices and a row of integers lie in unlike blocks. -/
theorem heads_apart {w : World} {lo lo' n k : Nat} {v u : Value} {vs xs : List Value} (h : w.ownsRow lo 22 1 v n vs) (h' : w.ownsRow lo' 3 1 u k xs) : v.ownBlock = none ∨ v.ownBlock ≠ u.ownBlock := by
  rcases h.2 with ⟨rfl, _⟩ | ⟨g, cap, cur, rfl, _, hg, _⟩
  · exact .inl rfl
  rcases h'.2 with ⟨rfl, _⟩ | ⟨g', cap', cur', rfl, _, hg', _⟩
  · right; simp [Value.ownBlock]
  · right
    intro e
    simp only [Value.ownBlock, Option.some.injEq] at e
    subst e
    rw [hg] at hg'
    simp at hg'
theorem heads_apart' {w : World} {lo lo' n k : Nat} {v u : Value} {vs xs : List Value} (h : w.ownsRow lo 22 1 v n vs) (h' : w.ownsRow lo' 3 1 u k xs) : u.ownBlock = none ∨ u.ownBlock ≠ v.ownBlock := by
  cases hu : u.ownBlock with
  | none => exact .inl rfl
  | some b =>
    right
    rcases heads_apart h h' with e | e
    · rw [e]; simp
    · rw [← hu]; exact fun h => e h.symm

theorem MatV.lenEq {w : World} {lo hi n cap : Nat} {g : Addr} {vs : List Value} {m : List (List Int)} (h : MatV w lo hi (.slice (some g) n cap) vs m) : n = m.length := by
  rcases h.head.2 with ⟨h', _⟩ | ⟨g', cap', cur, h', _, _⟩
  · simp at h'
  · simp at h'; exact h'.2.1
theorem MatV.sizeLo {w : World} {lo hi n cap : Nat} {g : Addr} {vs : List Value} {m : List (List Int)} (h : MatV w lo hi (.slice (some g) n cap) vs m) : lo ≤ w.heap.size := by
  have h1 := (World.ownsRow.lt h.head g.block rfl)
  omega
theorem MatV.cell {w : World} {lo hi g n cap : Nat} {vs : List Value} {m : List (List Int)} (h : MatV w lo hi (.slice (some ⟨g, 0, none⟩) n cap) vs m) (i : Nat) (hi' : i < m.length) : w.cell? ⟨g, i, none⟩ = some (vs.getD i nilRow) := by
  obtain rfl := h.lenEq
  have := World.ownsRow.cellAt h.head i (by omega)
  rw [this, List.getD_eq_getElem?_getD, List.getElem?_eq_getElem (by rw [h.len]; exact hi'), Option.getD_some]
theorem MatV.open {w : World} {lo hi : Nat} {v : Value} {vs : List Value} {m : List (List Int)} (h : MatV w lo hi v vs m) (h0 : 0 < m.length) :
    ∃ g cap, v = .slice (some ⟨g, 0, none⟩) m.length cap ∧ lo ≤ g ∧ g < w.heap.size ∧ m.length ≤ cap ∧ cap ≤ maxLen := by
  rcases h.head.2 with ⟨_, h'⟩ | ⟨g, cap, cur, rfl, hb, hg, hc, hm, _⟩
  · omega
  · exact ⟨g, cap, rfl, hb, (Array.getElem?_eq_some_iff.1 hg).1, hc, hm⟩
theorem MatV.rd {w : World} {lo hi : Nat} {v : Value} {vs : List Value} {m : List (List Int)} (h : MatV w lo hi v vs m) : RdM w v m := by
  rcases h.head.2 with ⟨rfl, hn⟩ | ⟨g, cap, cur, rfl, hb, hg, hc, hm, hs, ht⟩
  · have : m = [] := List.eq_nil_of_length_eq_zero hn
    subst this
    exact ⟨none, 0, rfl, Nat.le_refl _, ⟨Nat.zero_le _, fun _ => rfl⟩, .inl rfl⟩
  · refine ⟨_, cap, rfl, hc, ⟨hm, fun h => by cases h⟩, .inr ⟨g, 0, rfl, (Array.getElem?_eq_some_iff.1 hg).1, fun i hi => ⟨_, ?_, (h.row i hi).rd⟩⟩⟩
    rw [Nat.zero_add]
    exact h.cell i hi
theorem Mat.rd {w : World} {lo hi : Nat} {v : Value} {m : List (List Int)} (h : Mat w lo hi v m) : RdM w v m := by
  obtain ⟨vs, h⟩ := h
  exact h.rd
theorem ownsRow_below {w w' : World} {base n : Nat} {e : TypeId} {v : Value} {xs : List Value} (h : w.ownsRow base e 1 v n xs) (hb : Below w.heap.size w w') : w'.ownsRow base e 1 v n xs := by
  refine ⟨h.1, ?_⟩
  rcases h.2 with hn | ⟨g, cap, cur, rfl, hb', hg, rest⟩
  · exact .inl hn
  · exact .inr ⟨g, cap, cur, rfl, hb', by rw [hb.block g (Array.getElem?_eq_some_iff.1 hg).1]; exact hg, rest⟩
theorem MatV.below {w w' : World} {lo hi : Nat} {v : Value} {vs : List Value} {m : List (List Int)} (h : MatV w lo hi v vs m) (hb : Below w.heap.size w w') : MatV w' lo hi v vs m :=
  ⟨h.len, ownsRow_below h.head hb, fun i hi => (h.row i hi).below hb, h.top, h.tops, h.apart⟩
theorem Mat.below {w w' : World} {lo hi : Nat} {v : Value} {m : List (List Int)} (h : Mat w lo hi v m) (hb : Below w.heap.size w w') : Mat w' lo hi v m := by
  obtain ⟨vs, h⟩ := h
  exact ⟨vs, h.below hb⟩
theorem MatV.wider {w : World} {lo hi lo' hi' : Nat} {v : Value} {vs : List Value} {m : List (List Int)} (h : MatV w lo hi v vs m) (h1 : lo' ≤ lo) (h2 : hi ≤ hi') : MatV w lo' hi' v vs m := by
  refine ⟨h.len, ⟨h.head.1, ?_⟩, fun i hi => Own.mono (h.row i hi) h1, fun k hk => Nat.lt_of_lt_of_le (h.top k hk) h2, fun i k hi hk => Nat.lt_of_lt_of_le (h.tops i k hi hk) h2, h.apart⟩
  rcases h.head.2 with hn | ⟨g, cap, cur, rfl, hb', rest⟩
  · exact .inl hn
  · exact .inr ⟨g, cap, cur, rfl, Nat.le_trans h1 hb', rest⟩
theorem Mat.wider {w : World} {lo hi lo' hi' : Nat} {v : Value} {m : List (List Int)} (h : Mat w lo hi v m) (h1 : lo' ≤ lo) (h2 : hi ≤ hi') : Mat w lo' hi' v m := by
  obtain ⟨vs, h⟩ := h
  exact ⟨vs, h.wider h1 h2⟩
theorem MatV.chg {w w' : World} {lo hi a b : Nat} {v : Value} {vs : List Value} {m : List (List Int)} (h : MatV w lo hi v vs m) (hc : Chg a b w w') (hd : hi ≤ a ∨ b ≤ lo) : MatV w' lo hi v vs m := by
  refine ⟨h.len, ⟨h.head.1, ?_⟩, fun i hi => Own.chg (h.row i hi) (fun k hk => h.tops i k hi hk) hc hd, h.top, h.tops, h.apart⟩
  rcases h.head.2 with hn | ⟨g, cap, cur, rfl, hb', hg, rest⟩
  · exact .inl hn
  · have := h.top g rfl
    exact .inr ⟨g, cap, cur, rfl, hb', by rw [hc.block g (Array.getElem?_eq_some_iff.1 hg).1 (by omega)]; exact hg, rest⟩
theorem Mat.nil (w : World) (lo hi : Nat) : Mat w lo hi nilRow [] :=
  ⟨[], rfl, World.ownsRow_nil _ _ _ _, fun i hi => by simp at hi, fun k hk => by simp [Value.ownBlock] at hk, fun i k hi => by simp at hi, fun i j hi => by simp at hi⟩

theorem getD_set {α : Type} (l : List α) (i j : Nat) (x d : α) (h : i < l.length) : (l.set i x).getD j d = if j = i then x else l.getD j d := by
  simp only [List.getD_eq_getElem?_getD, List.getElem?_set]
  by_cases e : i = j
  · subst e; simp [h]
  · rw [if_neg e, if_neg (fun h => e h.symm)]

/-- One row is written: the others stay. -/
theorem MatV.write {w w' : World} {lo hi : Nat} {v : Value} {vs : List Value} {m : List (List Int)} (h : MatV w lo hi v vs m) (i : Nat) (hi' : i < m.length) (r : List Int)
    (ho : Own w' lo (vs.getD i nilRow) r) (hg : w.grownBy w' (vs.getD i nilRow).ownBlock) : MatV w' lo hi v vs (m.set i r) := by
  refine ⟨by rw [List.length_set]; exact h.len, ?_, ?_, h.top, ?_, ?_⟩
  · rw [List.length_set]
    exact World.ownsRow.kept h.head hg (heads_apart h.head (h.row i hi'))
  · intro j hj
    rw [List.length_set] at hj
    rw [getD_set _ _ _ _ _ hi']
    by_cases e : j = i
    · subst e; rw [if_pos rfl]; exact ho
    · rw [if_neg e]
      exact World.ownsRow.kept (h.row j hj) hg (h.apart j i hj hi' e)
  · intro j k hj hk
    rw [List.length_set] at hj
    exact h.tops j k hj hk
  · intro j k hj hk
    rw [List.length_set] at hj hk
    exact h.apart j k hj hk
theorem MatV.writeChg {w w' : World} {lo hi : Nat} {v : Value} {vs : List Value} {m : List (List Int)} (h : MatV w lo hi v vs m) (i : Nat) (hi' : i < m.length) (hg : w.grownBy w' (vs.getD i nilRow).ownBlock) : Chg lo hi w w' :=
  Chg.ofGrown hg (fun k hk => ⟨(World.ownsRow.lt (h.row i hi') k hk).1, h.tops i k hi' hk⟩)
/-- Another row reads as it did where one is written. -/
theorem MatV.other {w w' : World} {lo hi : Nat} {v : Value} {vs : List Value} {m : List (List Int)} (h : MatV w lo hi v vs m) (i j : Nat) (hi' : i < m.length) (hj : j < m.length) (e : j ≠ i) (hg : w.grownBy w' (vs.getD i nilRow).ownBlock) : Own w' lo (vs.getD j nilRow) (m.getD j []) :=
  World.ownsRow.kept (h.row j hj) hg (h.apart j i hj hi' e)

/-- A new row is laid at a place of the outer one. -/
theorem MatV.lay {w w' : World} {lo hi g n cap : Nat} {vs : List Value} {m : List (List Int)} (h : MatV w lo hi (.slice (some ⟨g, 0, none⟩) n cap) vs m) (i : Nat) (hi' : i < m.length) (hb : Below w.heap.size w w') (u : Value) (r : List Int) (ho : Own w' w.heap.size u r)
    (hlo : lo ≤ w.heap.size) (hh : hi ≤ w.heap.size) :
    MatV (w'.setCell ⟨g, i, none⟩ u) lo (w'.setCell ⟨g, i, none⟩ u).heap.size (.slice (some ⟨g, 0, none⟩) n cap) (vs.set i u) (m.set i r) ∧ w'.grownBy (w'.setCell ⟨g, i, none⟩ u) (some g) := by
  have hl : i < vs.length := by rw [h.len]; exact hi'
  obtain rfl := h.lenEq
  have st := (ownsRow_below h.head hb).stored i u
  have ho' : Own w' lo u r := Own.mono ho hlo
  have hgu : u.ownBlock = none ∨ u.ownBlock ≠ (some g : Option Nat) := by
    cases hu : u.ownBlock with
    | none => exact .inl rfl
    | some k =>
      right
      intro e
      cases e
      have h1 := (World.ownsRow.lt ho _ hu).1
      have h2 := h.top g rfl
      omega
  refine ⟨⟨by rw [List.length_set, List.length_set]; exact h.len, ?_, ?_, ?_, ?_, ?_⟩, st.2⟩
  · rw [List.length_set]
    exact st.1
  · intro j hj
    rw [List.length_set] at hj
    rw [getD_set _ _ _ _ _ hi', getD_set _ _ _ _ _ hl]
    by_cases e : j = i
    · subst e
      rw [if_pos rfl, if_pos rfl]
      exact World.ownsRow.kept ho' st.2 hgu
    · rw [if_neg e, if_neg e]
      exact World.ownsRow.kept ((h.row j hj).below hb) st.2 (heads_apart' h.head (h.row j hj))
  · intro k hk
    have h1 := h.top k hk
    have h2 := hb.size
    have h3 := st.2.size
    omega
  · intro j k hj hk
    rw [List.length_set] at hj
    rw [getD_set _ _ _ _ _ hl] at hk
    have h2 := hb.size
    have h3 := st.2.size
    by_cases e : j = i
    · rw [if_pos e] at hk
      have := (World.ownsRow.lt ho k hk).2
      omega
    · rw [if_neg e] at hk
      have := h.tops j k hj hk
      omega
  · intro j k hj hk hjk
    rw [List.length_set] at hj hk
    rw [getD_set _ _ _ _ _ hl, getD_set _ _ _ _ _ hl]
    by_cases e : j = i
    · rw [if_pos e, if_neg (by omega)]
      cases hu : u.ownBlock with
      | none => exact .inl rfl
      | some b =>
        right
        intro e'
        have h1 := (World.ownsRow.lt ho b hu).1
        have h2 := h.tops k b hk e'.symm
        omega
    · rw [if_neg e]
      by_cases e2 : k = i
      · rw [if_pos e2]
        cases hu : (vs.getD j nilRow).ownBlock with
        | none => exact .inl rfl
        | some b =>
          right
          intro e'
          have h1 := (World.ownsRow.lt ho b e'.symm).1
          have h2 := h.tops j b hj hu
          omega
      · rw [if_neg e2]
        exact h.apart j k hj hk hjk

/-- A new row behind the others, the outer row grown (or laid anew). -/
theorem MatV.push {w w1 w2 : World} {lo hi : Nat} {v v' u : Value} {vs : List Value} {m : List (List Int)} {r : List Int} (h : MatV w lo hi v vs m) (hb : Below w.heap.size w w1) (ho : Own w1 w.heap.size u r) (hh : hi ≤ w.heap.size) (hlo : lo ≤ w.heap.size)
    (ho2 : w2.ownsRow lo 22 1 v' (m.length + 1) (vs ++ [u])) (hg : w1.grownBy w2 v.ownBlock) : MatV w2 lo w2.heap.size v' (vs ++ [u]) (m ++ [r]) := by
  have get : ∀ j, j < m.length → (vs ++ [u]).getD j nilRow = vs.getD j nilRow ∧ (m ++ [r]).getD j [] = m.getD j [] := by
    intro j hj
    simp only [List.getD_eq_getElem?_getD]
    rw [List.getElem?_append_left (by rw [h.len]; exact hj), List.getElem?_append_left hj]
    exact ⟨rfl, rfl⟩
  have getl : (vs ++ [u]).getD m.length nilRow = u ∧ (m ++ [r]).getD m.length [] = r := by
    simp only [List.getD_eq_getElem?_getD]
    rw [List.getElem?_append_right (by rw [h.len]; exact Nat.le_refl _), List.getElem?_append_right (Nat.le_refl _), h.len, Nat.sub_self]
    exact ⟨rfl, rfl⟩
  have hs1 := hb.size
  have hs2 := hg.size
  have hu : u.ownBlock = none ∨ u.ownBlock ≠ v.ownBlock := by
    cases hu : u.ownBlock with
    | none => exact .inl rfl
    | some b =>
      right
      intro e
      have h1 := (World.ownsRow.lt ho b hu).1
      have h2 := h.top b e.symm
      omega
  have top2 : ∀ k, v'.ownBlock = some k → k < w2.heap.size := fun k hk => (World.ownsRow.lt ho2 k hk).2
  refine ⟨by simp [h.len], by rw [List.length_append]; exact ho2, ?_, top2, ?_, ?_⟩
  · intro j hj
    rw [List.length_append, List.length_singleton] at hj
    by_cases e : j = m.length
    · subst e
      rw [getl.1, getl.2]
      exact World.ownsRow.kept (Own.mono ho hlo) hg hu
    · rw [(get j (by omega)).1, (get j (by omega)).2]
      exact World.ownsRow.kept ((h.row j (by omega)).below hb) hg (heads_apart' h.head (h.row j (by omega)))
  · intro j k hj hk
    rw [List.length_append, List.length_singleton] at hj
    by_cases e : j = m.length
    · subst e
      rw [getl.1] at hk
      have := (World.ownsRow.lt ho k hk).2
      omega
    · rw [(get j (by omega)).1] at hk
      have := h.tops j k (by omega) hk
      omega
  · intro j k hj hk hjk
    rw [List.length_append, List.length_singleton] at hj hk
    by_cases e : j = m.length
    · subst e
      rw [getl.1, (get k (by omega)).1]
      cases hu : u.ownBlock with
      | none => exact .inl rfl
      | some b =>
        right
        intro e'
        have h1 := (World.ownsRow.lt ho b hu).1
        have h2 := h.tops k b (by omega) e'.symm
        omega
    · rw [(get j (by omega)).1]
      by_cases e2 : k = m.length
      · subst e2
        rw [getl.1]
        cases hu : (vs.getD j nilRow).ownBlock with
        | none => exact .inl rfl
        | some b =>
          right
          intro e'
          have h1 := (World.ownsRow.lt ho b e'.symm).1
          have h2 := h.tops j b (by omega) hu
          omega
      · rw [(get k (by omega)).1]
        exact h.apart j k (by omega) (by omega) hjk

/-- What a law holds: a list of integers, or rows of them. -/
structure Thing where
  one : Bool
  row : List Int
  rows : List (List Int)
abbrev Thing.ints (xs : List Int) : Thing := ⟨true, xs, []⟩
abbrev Thing.mat (m : List (List Int)) : Thing := ⟨false, [], m⟩
def Thing.ok (w : World) (lo hi : Nat) (v : Value) : Thing → Prop
  | ⟨true, xs, _⟩ => Own w lo v xs ∧ ∀ k, v.ownBlock = some k → k < hi
  | ⟨false, _, m⟩ => Mat w lo hi v m
theorem Thing.chg {w w' : World} {lo hi a b : Nat} {v : Value} {t : Thing} (h : t.ok w lo hi v) (hc : Chg a b w w') (hd : hi ≤ a ∨ b ≤ lo) : t.ok w' lo hi v := by
  obtain ⟨one, xs, m⟩ := t
  cases one with
  | true => exact ⟨Own.chg h.1 h.2 hc hd, h.2⟩
  | false =>
    obtain ⟨vs, h⟩ := h
    exact ⟨vs, h.chg hc hd⟩
/-- The newest on top; each lies above what was there ahead of it. -/
def Held (W w : World) : Nat → List (Value × Thing) → Prop
  | top, [] => W.heap.size ≤ top
  | top, (v, t) :: L => ∃ lo hi, t.ok w lo hi v ∧ lo ≤ hi ∧ hi ≤ top ∧ Held W w lo L
theorem Held.base {W w : World} : ∀ {top : Nat} {L : List (Value × Thing)}, Held W w top L → W.heap.size ≤ top
  | _, [], h => h
  | _, _ :: _, ⟨_, _, _, h1, h2, h⟩ => Nat.le_trans (Nat.le_trans (Held.base h) h1) h2
theorem Held.up {W w : World} {top top' : Nat} : ∀ {L : List (Value × Thing)}, Held W w top L → top ≤ top' → Held W w top' L
  | [], h, hl => Nat.le_trans h hl
  | _ :: _, ⟨lo, hi, h0, h1, h2, h⟩, hl => ⟨lo, hi, h0, h1, Nat.le_trans h2 hl, h⟩
theorem Held.chg {W w w' : World} {a b : Nat} (hc : Chg a b w w') : ∀ {top : Nat} {L : List (Value × Thing)}, Held W w top L → top ≤ a → Held W w' top L
  | _, [], h, _ => h
  | _, _ :: _, ⟨lo, hi, h0, h1, h2, h⟩, hl => ⟨lo, hi, Thing.chg h0 hc (.inl (by omega)), h1, h2, Held.chg hc h (by omega)⟩
theorem Held.open {W w : World} : ∀ {top : Nat} {L : List (Value × Thing)} {i : Nat} {v : Value} {t : Thing}, Held W w top L → L[i]? = some (v, t) →
    ∃ lo hi, t.ok w lo hi v ∧ W.heap.size ≤ lo ∧ hi ≤ top ∧ ∀ w' t', t'.ok w' lo hi v → Chg lo hi w w' → Held W w' top (L.set i (v, t'))
  | top, [], i, v, t, _, h => by simp at h
  | top, (v0, t0) :: L, 0, v, t, ⟨lo, hi, h0, h1, h2, h⟩, hi' => by
    simp at hi'
    obtain ⟨rfl, rfl⟩ := hi'
    refine ⟨lo, hi, h0, h.base, h2, fun w' t' ht hc => ⟨lo, hi, ht, h1, h2, Held.chg hc h (Nat.le_refl _)⟩⟩
  | top, (v0, t0) :: L, i + 1, v, t, ⟨lo, hi, h0, h1, h2, h⟩, hi' => by
    obtain ⟨lo', hi2, ok, hb, ht, put⟩ := Held.open h (by simpa using hi')
    exact ⟨lo', hi2, ok, hb, by omega, fun w' t' ok' hc => ⟨lo, hi, Thing.chg h0 hc (.inr ht), h1, h2, put w' t' ok' hc⟩⟩
structure Hands (W w : World) (L : List (Value × Thing)) : Prop where
  below : Below W.heap.size W w
  held : Held W w w.heap.size L
theorem Hands.start (W : World) : Hands W W [] := ⟨Below.refl _ _, Nat.le_refl _⟩
theorem Hands.step {W w w' : World} {L : List (Value × Thing)} (h : Hands W w L) (hb : Below w.heap.size w w') : Hands W w' L :=
  ⟨h.below.trans (hb.mono h.below.size), (Held.chg (a := w.heap.size) (b := w.heap.size) (Chg.ofBelow hb) h.held (Nat.le_refl _)).up hb.size⟩
theorem Hands.addI {W w w' : World} {L : List (Value × Thing)} {v : Value} {xs : List Int} (h : Hands W w L) (hb : Below w.heap.size w w') (ho : Own w' w.heap.size v xs) : Hands W w' ((v, .ints xs) :: L) :=
  ⟨(h.step hb).below, w.heap.size, w'.heap.size, ⟨ho, ho.top⟩, hb.size, Nat.le_refl _, Held.chg (a := w.heap.size) (b := w.heap.size) (Chg.ofBelow hb) h.held (Nat.le_refl _)⟩
theorem Hands.addM {W w w' : World} {L : List (Value × Thing)} {v : Value} {m : List (List Int)} (h : Hands W w L) (hb : Below w.heap.size w w') (ho : Mat w' w.heap.size w'.heap.size v m) : Hands W w' ((v, .mat m) :: L) :=
  ⟨(h.step hb).below, w.heap.size, w'.heap.size, ho, hb.size, Nat.le_refl _, Held.chg (a := w.heap.size) (b := w.heap.size) (Chg.ofBelow hb) h.held (Nat.le_refl _)⟩
theorem Hands.open {W w : World} {L : List (Value × Thing)} {v : Value} {t : Thing} (h : Hands W w L) (i : Nat) (hi : L[i]? = some (v, t)) :
    ∃ lo hi, t.ok w lo hi v ∧ W.heap.size ≤ lo ∧ hi ≤ w.heap.size ∧ ∀ w' t', t'.ok w' lo hi v → Chg lo hi w w' → Hands W w' (L.set i (v, t')) := by
  obtain ⟨lo, hi', ok, hb, ht, put⟩ := Held.open h.held hi
  exact ⟨lo, hi', ok, hb, ht, fun w' t' ok' hc => ⟨h.below.trans (hc.below hb h.below.size), (put w' t' ok' hc).up hc.size⟩⟩
theorem Hands.rdI {W w : World} {L : List (Value × Thing)} {v : Value} {xs : List Int} (h : Hands W w L) (i : Nat) (hi : L[i]? = some (v, .ints xs)) : Rd w v xs := by
  obtain ⟨lo, hi', ok, _⟩ := h.open i hi
  exact ok.1.rd
theorem Hands.rdM {W w : World} {L : List (Value × Thing)} {v : Value} {m : List (List Int)} (h : Hands W w L) (i : Nat) (hi : L[i]? = some (v, .mat m)) : RdM w v m := by
  obtain ⟨lo, hi', ok, _⟩ := h.open i hi
  exact Mat.rd ok
end Go.Proofs.YtogopakmebiomaaDoor

namespace Go.Proofs.YtogopakmebiomaaDoor
open Go.RowKit

def tot (m : List (List Int)) : Nat := (m.map List.length).sum
theorem tot_nil : tot [] = 0 := rfl
theorem tot_take_succ (m : List (List Int)) (k : Nat) (h : k < m.length) : tot (m.take (k + 1)) = tot (m.take k) + (m.getD k []).length := by
  unfold tot
  rw [List.take_succ_eq_append_getElem h, List.map_append, List.sum_append]
  simp [List.getD_eq_getElem?_getD, List.getElem?_eq_getElem h]
theorem tot_app (a b : List (List Int)) : tot (a ++ b) = tot a + tot b := by simp [tot]
theorem tot_take_le (m : List (List Int)) (k : Nat) : tot (m.take k) ≤ tot m := by
  have := congrArg tot (List.take_append_drop k m)
  rw [tot_app] at this
  omega
theorem tot_row_le (m : List (List Int)) (k : Nat) (h : k < m.length) : tot (m.take k) + (m.getD k []).length ≤ tot m := by
  rw [← tot_take_succ m k h]; exact tot_take_le m (k + 1)
theorem Own.shape {w : World} {base : Nat} {v : Value} {xs : List Int} (h : Own w base v xs) : ∃ a n c, v = .slice a n c := by
  rcases h.2 with ⟨rfl, _⟩ | ⟨g, cap, cur, rfl, _⟩
  · exact ⟨_, _, _, rfl⟩
  · exact ⟨_, _, _, rfl⟩

/-- 'make([][]int, n)': n rows of nothing of the call's own, in the next block. -/
theorem wpList_make_rows {w : World} {ops : Array Oper} {rest : List Oper} {o : Oper} {a : Act} {Q : Exit → Act → World → Prop} (hg : o.guard = none) (l c : Operand) (hop : o.op = Op.makeSlice 46 l c)
    (L C : Int) (n : Nat) (hl : a.eval l = .int .i64 L) (hc : a.eval c = .int .i64 C) (hL : L = (n : Int)) (hC : C = (n : Int)) (hn : n ≤ 1048576)
    (h : ∀ w', MatV w' w.heap.size w'.heap.size (.slice (some ⟨w.heap.size, 0, none⟩) n n) (List.replicate n nilRow) (List.replicate n []) → w.grownBy w' none → wpList Tryd.prog ops Q rest (a.put o.dst (.slice (some ⟨w.heap.size, 0, none⟩) n n)) w') : wpList Tryd.prog ops Q (o :: rest) a w := by
  obtain ⟨i0, hi, hz0, hz1, hz2⟩ := info_parts infoRow
  refine wpList_make_full w hg l c _ hop w.heap.size 22 i0 (.slice none 0 0) 1 Tryd.underlying46 hi hz0 hz1 _ _ L C n hl hc hL hC (by rw [hz2]; omega) (by unfold maxLen; omega) (Nat.le_refl _) ?_
  intro w' ho hg'
  refine h w' ?_ hg'
  have e : (madeCells (Value.slice none 0 0).cells (n * 1)).toList = List.replicate n nilRow := by
    rw [Nat.mul_one]; exact toList_madeCells_one _ n
  rw [e] at ho
  have g1 : ∀ i, i < n → (List.replicate n nilRow).getD i nilRow = nilRow := fun i hi => by simp [List.getD_eq_getElem?_getD, hi]
  refine ⟨by simp, by rw [List.length_replicate]; exact ho, ?_, fun k hk => (World.ownsRow.lt ho k hk).2, ?_, ?_⟩
  · intro i hi
    rw [List.length_replicate] at hi
    rw [g1 i hi]
    have g2 : (List.replicate n ([] : List Int)).getD i [] = [] := by simp [List.getD_eq_getElem?_getD, hi]
    rw [g2]
    exact World.ownsRow_nil _ _ _ _
  · intro i k hi hk
    rw [List.length_replicate] at hi
    rw [g1 i hi] at hk
    simp [Value.ownBlock] at hk
  · intro i j hi hj _
    rw [List.length_replicate] at hi
    rw [g1 i hi]
    exact .inl rfl

/-- The first k rows; nothing in the others. -/
def toTo (m : List (List Int)) (k : Nat) : List (List Int) := m.take k ++ List.replicate (m.length - k) []
theorem toTo_length (m : List (List Int)) (k : Nat) (h : k ≤ m.length) : (toTo m k).length = m.length := by simp [toTo]; omega
theorem toTo_step (m : List (List Int)) (k : Nat) (h : k < m.length) : (toTo m k).set k (m.getD k []) = toTo m (k + 1) := by
  have e1 : (m.take k).length = k := by simp; omega
  unfold toTo
  rw [List.set_append_right _ _ (by omega), e1, Nat.sub_self]
  obtain ⟨j, hm⟩ : ∃ j, m.length - k = j + 1 := ⟨m.length - k - 1, by omega⟩
  have hm2 : m.length - (k + 1) = j := by omega
  rw [hm, hm2, List.replicate_succ, List.set_cons_zero, List.take_succ_eq_append_getElem h, List.append_assoc]
  simp only [List.getD_eq_getElem?_getD, List.getElem?_eq_getElem h, Option.getD_some, List.singleton_append]
theorem toTo_end (m : List (List Int)) : toTo m m.length = m := by simp [toTo]
theorem toTo_zero (m : List (List Int)) : toTo m 0 = List.replicate m.length [] := by simp [toTo]

set_option maxRecDepth 100000 in
set_option maxHeartbeats 400000 in
theorem eqIntS_quiet (v1 v2 : Value) (xs : List Int) (w : World) (h1 : Rd w v1 xs) (h2 : Rd w v2 xs) :
    Calls Tryd.prog 15 #[v1, v2] w fun e w' => e = .returned (.bool true) ∧ ∃ n, w' = w.drewN n := by
  obtain ⟨a1, c1, rfl, _, m1, k1⟩ := h1
  obtain ⟨a2, c2, rfl, _, _, k2⟩ := h2
  have hm : xs.length ≤ maxLen := by omega
  unfold maxLen at hm
  have K := hide k1
  have L := hide k2
  clear k1 k2 m1
  go_enter Tryd.func15, Tryd.ntmps15
  go_wp2
  go_loopw [5] (fun vi wr => ∃ k n : Nat, k ≤ xs.length ∧ vi = .int .i64 k ∧ wr = w.drewN n) (fun vi _ => xs.length - (intOf vi).toNat)
  case atStart => exact ⟨0, 0, Nat.zero_le _, rfl, rfl⟩
  case round =>
    obtain ⟨k, n, hk, rfl, rfl⟩ := hrel
    by_cases hlt : k < xs.length
    · rcases K.out with h3 | ⟨b, off, rfl, hbs, hc⟩
      · subst h3; simp at hlt
      rcases L.out with h3 | ⟨b', off', rfl, hbs', hc'⟩
      · subst h3; simp at hlt
      have e1 : w.cell? ⟨b, off + k, none⟩ = some (.int .i64 (xs.getD k 0)) := hc k hlt
      have e2 : w.cell? ⟨b', off' + k, none⟩ = some (.int .i64 (xs.getD k 0)) := hc' k hlt
      have hlt' : (k : Int) < (xs.length : Int) := by omega
      clear hc hc'
      go_wp2
      go_quiet (fail)
      go_wp2
      go_roundw
      case rel => exact ⟨k + 1, _, by omega, by go_num, rfl⟩
      case measure => simp [intOf]; omega
    · obtain rfl : k = xs.length := by omega
      go_wp2
      go_ret
      exact ⟨rfl, _, rfl⟩
theorem quiet_more {P : Program} {f : FuncId} {args : Array Value} {w : World} {n : Nat} {v : Value}
    (h : Calls P f args (w.drewN n) fun e w' => e = .returned v ∧ ∃ m, w' = (w.drewN n).drewN m) : Calls P f args (w.drewN n) fun e w'' => e = .returned v ∧ ∃ m, w'' = w.drewN m :=
  h.mono fun _ _ ⟨he, m, hm⟩ => ⟨he, n + m, by rw [hm, World.drewN_drewN]⟩
theorem Rd.drewN {w : World} {v : Value} {xs : List Int} (h : Rd w v xs) (n : Nat) : Rd (w.drewN n) v xs := h.below (below_drewN' n)

/-- The rows' marks: each row's numbers go on where the row ahead of it stopped. -/
def mkM (k : Int) (m : List (List Int)) (j : Nat) : List Int := marks (k + tot (m.take j)) (m.getD j []).length
def mkToM (k : Int) (m : List (List Int)) (i : Nat) : List (List Int) := (List.range i).map (mkM k m) ++ m.drop i
def marksM (k : Int) (m : List (List Int)) : List (List Int) := (List.range m.length).map (mkM k m)
theorem mkToM_length (k : Int) (m : List (List Int)) (i : Nat) (h : i ≤ m.length) : (mkToM k m i).length = m.length := by simp [mkToM]; omega
theorem mkToM_get (k : Int) (m : List (List Int)) (i : Nat) : (mkToM k m i).getD i [] = m.getD i [] := by
  simp only [mkToM, List.getD_eq_getElem?_getD]
  rw [List.getElem?_append_right (by simp)]
  simp
theorem mkToM_step (k : Int) (m : List (List Int)) (i : Nat) (h : i < m.length) : (mkToM k m i).set i (mkM k m i) = mkToM k m (i + 1) := by
  unfold mkToM
  rw [List.set_append_right _ _ (by simp), List.length_map, List.length_range, Nat.sub_self, List.drop_eq_getElem_cons h, List.set_cons_zero]
  simp [List.range_succ]
theorem mkToM_end (k : Int) (m : List (List Int)) : mkToM k m m.length = marksM k m := by simp [mkToM, marksM]
theorem marksM_length (k : Int) (m : List (List Int)) : (marksM k m).length = m.length := by simp [marksM]
theorem marksM_get (k : Int) (m : List (List Int)) (i : Nat) (h : i < m.length) : (marksM k m).getD i [] = mkM k m i := by simp [marksM, h]

end Go.Proofs.YtogopakmebiomaaDoor

namespace Go.Proofs.YtogopakmebiomaaDoor
open Go.RowKit

theorem all_yes {α : Type} {l : List α} {d : α} {p : α → Bool} (h : ∀ i, i < l.length → p (l.getD i d) = true) : l.all p = true := by
  rw [List.all_eq_true]
  intro x hx
  obtain ⟨i, hi, rfl⟩ := List.mem_iff_getElem.1 hx
  have := h i hi
  rwa [List.getD_eq_getElem?_getD, List.getElem?_eq_getElem hi, Option.getD_some] at this
theorem all_at {α : Type} {l : List α} {d : α} {p : α → Bool} (h : l.all p = true) (i : Nat) (hi : i < l.length) : p (l.getD i d) = true := by
  rw [List.getD_eq_getElem?_getD, List.getElem?_eq_getElem hi, Option.getD_some]
  exact List.all_eq_true.1 h _ (List.getElem_mem hi)
theorem all_no {α : Type} {l : List α} {d : α} {p : α → Bool} {k : Nat} (hk : k < l.length) (h : p (l.getD k d) = false) : l.all p = false := by
  cases hh : l.all p with
  | false => rfl
  | true => rw [all_at hh k hk] at h; cases h
theorem Rd.row {w : World} {a : Option Addr} {n cap : Nat} {xs : List Int} (h : Rd w (.slice a n cap) xs) (i : Nat) (hi : i < xs.length) :
    ∃ b off u, a = some ⟨b, off, none⟩ ∧ w.cell? ⟨b, off + i, none⟩ = some u ∧ u = .int .i64 (xs.getD i 0) := by
  obtain ⟨a', cap', hv, _, _, h3⟩ := h
  simp only [Value.slice.injEq] at hv
  obtain ⟨rfl, rfl, rfl⟩ := hv
  rcases h3 with h3 | ⟨b, off, rfl, hlt, hc⟩
  · subst h3; simp at hi
  · exact ⟨b, off, _, rfl, hc i hi, rfl⟩

set_option maxRecDepth 100000 in
theorem isSide_calls (n : Int) (w : World) :
    Calls Tryd.prog 166 #[.int .i64 n] w fun e w' => e = .returned (.bool (decide (1 ≤ n ∧ n ≤ 8))) ∧ w = w' := by
  by_cases h : 1 ≤ n
  · by_cases h2 : n ≤ 8
    · rw [decide_eq_true ⟨h, h2⟩]
      go_enter Tryd.func166, Tryd.ntmps166
      go_wp2
      go_ret
      exact ⟨rfl, rfl⟩
    · rw [decide_eq_false (fun e => h2 e.2)]
      go_enter Tryd.func166, Tryd.ntmps166
      go_wp2
      go_ret
      exact ⟨rfl, rfl⟩
  · rw [decide_eq_false (fun e => h e.1)]
    go_enter Tryd.func166, Tryd.ntmps166
    go_wp2
    go_ret
    exact ⟨rfl, rfl⟩
set_option maxRecDepth 100000 in
theorem isLong_calls (u : Value) (r : List Int) (n : Int) (g : Nat) (w : World) (h : Rd w u r) (hg : w.cell? ⟨g, 0, none⟩ = some (.int .i64 n)) :
    Calls Tryd.prog 162 #[u, .pointer (some ⟨g, 0, none⟩)] w fun e w' => e = .returned (.bool ((fun r : List Int => decide ((r.length : Int) = n)) r)) ∧ w = w' := by
  obtain ⟨a, cap, rfl, h1, h2, h3⟩ := h
  clear h3 h2 h1
  by_cases h : (r.length : Int) = n
  · simp only [decide_eq_true h]
    have e : ((r.length : Int) == n) = true := by simp [h]
    have H := hide h
    clear h
    go_enter Tryd.func162, Tryd.ntmps162
    go_wp2
    go_ret
    exact ⟨rfl, rfl⟩
  · simp only [decide_eq_false h]
    have e : ((r.length : Int) == n) = false := by simp [h]
    go_enter Tryd.func162, Tryd.ntmps162
    go_wp2
    go_ret
    exact ⟨rfl, rfl⟩
theorem areEls_calls (v : Value) (xs : List Int) (w : World) (h : Rd w v xs) :
    Calls Tryd.prog 72 #[v] w fun e w' => e = .returned (.bool ((fun r : List Int => r.all Gf.elOk) xs)) ∧ w = w' := Gf.areElements_calls v xs w h
set_option maxRecDepth 100000 in
set_option maxHeartbeats 800000 in
theorem allLong_calls (v : Value) (m : List (List Int)) (n : Int) (g : Nat) (w : World) (h : RdM w v m) (hg : w.cell? ⟨g, 0, none⟩ = some (.int .i64 n)) :
    Calls Tryd.prog 108 #[v, .func (.func 162) #[] #[.pointer (some ⟨g, 0, none⟩)]] w fun e w' => e = .returned (.bool (m.all (fun r : List Int => decide ((r.length : Int) = n)))) ∧ w = w' := by
  have R := hide h
  obtain ⟨a, cap, rfl, h1, h2, h3⟩ := h
  have hm : m.length ≤ maxLen := by omega
  unfold maxLen at hm
  obtain ⟨p, hp⟩ : ∃ p, p = (fun r : List Int => decide ((r.length : Int) = n)) := ⟨_, rfl⟩
  rw [← hp]
  have HP := hide hp
  clear h3 h2 h1 hp
  go_enter Tryd.func108, Tryd.ntmps108
  go_wp2
  go_loop [9] (fun vi => ∃ k : Nat, k ≤ m.length ∧ vi = .int .i64 k ∧ ∀ i, i < k → p (m.getD i []) = true) (fun vi => m.length - (intOf vi).toNat)
  case atStart => exact ⟨0, Nat.zero_le _, rfl, fun i hi => by omega⟩
  case round =>
    obtain ⟨k, hk, rfl, hall⟩ := hrel
    have A := hide hall
    clear hall
    by_cases hlt : k < m.length
    · have hlt' : (k : Int) < (m.length : Int) := by omega
      obtain ⟨b, off, u, rfl, hc1, hu⟩ := R.out.row k hlt
      obtain ⟨r, hr⟩ : ∃ r, r = m.getD k [] := ⟨_, rfl⟩
      rw [← hr] at hu
      have U := hide hu
      have Hr := hide hr
      clear hu hr
      obtain ⟨q, hq⟩ : ∃ q, q = p r := ⟨_, rfl⟩
      have Q := hide hq
      have HC : Hid (Calls Tryd.prog 162 #[u, .pointer (some ⟨g, 0, none⟩)] w fun e w' => e = .returned (.bool q) ∧ w = w') := by
        rw [hq, HP.out]
        exact isLong_calls _ r _ _ _ U.out hg
      cases q with
      | true =>
        clear hq
        go_wp2_with (go_at_call 162; refine HC.out.mono ?_; rintro e w' ⟨rfl, rfl⟩)
        go_round
        case rel =>
          refine ⟨k + 1, by omega, by go_num, fun i hi => ?_⟩
          by_cases e : i = k
          · subst e; rw [← Hr.out, ← Q.out]
          · exact A.out i (by omega)
        case measure => simp [intOf]; omega
      | false =>
        clear hq
        go_wp2_with (go_at_call 162; refine HC.out.mono ?_; rintro e w' ⟨rfl, rfl⟩)
        go_ret
        exact ⟨Gf.ret_bool (all_no hlt (by rw [← Hr.out, ← Q.out])).symm, rfl⟩
    · obtain rfl : k = m.length := by omega
      go_wp2
      go_ret
      exact ⟨Gf.ret_bool (all_yes A.out).symm, rfl⟩
set_option maxRecDepth 100000 in
set_option maxHeartbeats 800000 in
theorem allEls_calls (v : Value) (m : List (List Int))  (w : World) (h : RdM w v m) :
    Calls Tryd.prog 108 #[v, .func (.func 72) #[] #[]] w fun e w' => e = .returned (.bool (m.all (fun r : List Int => r.all Gf.elOk))) ∧ w = w' := by
  have R := hide h
  obtain ⟨a, cap, rfl, h1, h2, h3⟩ := h
  have hm : m.length ≤ maxLen := by omega
  unfold maxLen at hm
  obtain ⟨p, hp⟩ : ∃ p, p = (fun r : List Int => r.all Gf.elOk) := ⟨_, rfl⟩
  rw [← hp]
  have HP := hide hp
  clear h3 h2 h1 hp
  go_enter Tryd.func108, Tryd.ntmps108
  go_wp2
  go_loop [9] (fun vi => ∃ k : Nat, k ≤ m.length ∧ vi = .int .i64 k ∧ ∀ i, i < k → p (m.getD i []) = true) (fun vi => m.length - (intOf vi).toNat)
  case atStart => exact ⟨0, Nat.zero_le _, rfl, fun i hi => by omega⟩
  case round =>
    obtain ⟨k, hk, rfl, hall⟩ := hrel
    have A := hide hall
    clear hall
    by_cases hlt : k < m.length
    · have hlt' : (k : Int) < (m.length : Int) := by omega
      obtain ⟨b, off, u, rfl, hc1, hu⟩ := R.out.row k hlt
      obtain ⟨r, hr⟩ : ∃ r, r = m.getD k [] := ⟨_, rfl⟩
      rw [← hr] at hu
      have U := hide hu
      have Hr := hide hr
      clear hu hr
      obtain ⟨q, hq⟩ : ∃ q, q = p r := ⟨_, rfl⟩
      have Q := hide hq
      have HC : Hid (Calls Tryd.prog 72 #[u] w fun e w' => e = .returned (.bool q) ∧ w = w') := by
        rw [hq, HP.out]
        exact areEls_calls _ r _ U.out
      cases q with
      | true =>
        clear hq
        go_wp2_with (go_at_call 72; refine HC.out.mono ?_; rintro e w' ⟨rfl, rfl⟩)
        go_round
        case rel =>
          refine ⟨k + 1, by omega, by go_num, fun i hi => ?_⟩
          by_cases e : i = k
          · subst e; rw [← Hr.out, ← Q.out]
          · exact A.out i (by omega)
        case measure => simp [intOf]; omega
      | false =>
        clear hq
        go_wp2_with (go_at_call 72; refine HC.out.mono ?_; rintro e w' ⟨rfl, rfl⟩)
        go_ret
        exact ⟨Gf.ret_bool (all_no hlt (by rw [← Hr.out, ← Q.out])).symm, rfl⟩
    · obtain rfl : k = m.length := by omega
      go_wp2
      go_ret
      exact ⟨Gf.ret_bool (all_yes A.out).symm, rfl⟩

set_option maxRecDepth 100000 in
theorem areAllLong_calls (v : Value) (m : List (List Int)) (n : Int) (w : World) (h : RdM w v m) :
    Calls Tryd.prog 140 #[v, .int .i64 n] w fun e w' => e = .returned (.bool (m.all fun r : List Int => decide ((r.length : Int) = n))) ∧ Below w.heap.size w w' := by
  have R := hide h
  have S : ∃ a n c, v = .slice a n c := by
    obtain ⟨a, cap, rfl, _⟩ := h
    exact ⟨_, _, _, rfl⟩
  obtain ⟨a, k, c, rfl⟩ := S
  clear h
  go_enter Tryd.func140, Tryd.ntmps140
  go_wp2_with fail
  refine (allLong_calls _ m n _ _ (R.out.below ((Below.refl _ _).alloc (Nat.le_refl _) _)) (World.cell?_alloc_at _ _ _ _ rfl)).mono ?_
  rintro e w' ⟨rfl, rfl⟩
  go_wp2
  go_ret
  exact ⟨rfl, (Below.refl _ _).alloc (Nat.le_refl _) _⟩

/-- What both call a matrix. -/
def goodM (m : List (List Int)) : Bool :=
  decide (1 ≤ (m.length : Int) ∧ (m.length : Int) ≤ 8) && (decide (1 ≤ ((m.getD 0 []).length : Int) ∧ ((m.getD 0 []).length : Int) ≤ 8) && (m.all (fun r : List Int => decide ((r.length : Int) = ((m.getD 0 []).length : Int))) && m.all (fun r : List Int => r.all Gf.elOk)))
theorem goodM_rows {m : List (List Int)} (h : goodM m = true) : 1 ≤ m.length ∧ m.length ≤ 8 ∧ 1 ≤ (m.getD 0 []).length ∧ (m.getD 0 []).length ≤ 8 ∧ ∀ i, i < m.length → (m.getD i []).length = (m.getD 0 []).length ∧ (m.getD i []).all Gf.elOk = true := by
  simp only [goodM, Bool.and_eq_true, decide_eq_true_eq] at h
  obtain ⟨h1, h2, h3, h4⟩ := h
  refine ⟨by omega, by omega, by omega, by omega, fun i hi => ⟨?_, all_at h4 i hi⟩⟩
  have := all_at (d := []) h3 i hi
  simp only [decide_eq_true_eq] at this
  omega
theorem goodM_tot {m : List (List Int)} (h : goodM m = true) : m.length + tot m ≤ 1048576 := by
  obtain ⟨h1, h2, h3, h4, h5⟩ := goodM_rows h
  have : ∀ k, k ≤ m.length → tot (m.take k) ≤ 8 * k := by
    intro k
    induction k with
    | zero => intro _; simp [tot]
    | succ k ih =>
      intro hk
      rw [tot_take_succ m k (by omega)]
      have := ih (by omega)
      have := (h5 k (by omega)).1
      omega
  have := this m.length (Nat.le_refl _)
  rw [List.take_length] at this
  omega

set_option maxRecDepth 100000 in
set_option maxHeartbeats 800000 in
theorem goodMatrix_calls (v : Value) (m : List (List Int)) (w : World) (h : RdM w v m) :
    Calls Tryd.prog 170 #[v] w fun e w' => e = .returned (.bool (goodM m)) ∧ Below w.heap.size w w' := by
  have R := hide h
  obtain ⟨a, cap, rfl, h1, h2, h3⟩ := h
  clear h3 h2 h1
  obtain ⟨b1, hb1⟩ : ∃ b, b = decide (1 ≤ (m.length : Int) ∧ (m.length : Int) ≤ 8) := ⟨_, rfl⟩
  obtain ⟨b2, hb2⟩ : ∃ b, b = decide (1 ≤ ((m.getD 0 []).length : Int) ∧ ((m.getD 0 []).length : Int) ≤ 8) := ⟨_, rfl⟩
  obtain ⟨b3, hb3⟩ : ∃ b, b = m.all (fun r : List Int => decide ((r.length : Int) = ((m.getD 0 []).length : Int))) := ⟨_, rfl⟩
  obtain ⟨b4, hb4⟩ : ∃ b, b = m.all (fun r : List Int => r.all Gf.elOk) := ⟨_, rfl⟩
  have hg : goodM m = (b1 && (b2 && (b3 && b4))) := by rw [hb1, hb2, hb3, hb4]; rfl
  rw [hg]
  clear hg
  have B1 := hide hb1
  have B2 := hide hb2
  have B3 := hide hb3
  have B4 := hide hb4
  cases b1 with
  | false =>
    clear hb1 hb2 hb3 hb4
    go_enter Tryd.func170, Tryd.ntmps170
    go_wp2_with fail
    refine (isSide_calls _ _).mono ?_
    rw [← B1.out]
    rintro e w' ⟨rfl, rfl⟩
    go_wp2
    go_ret
    exact ⟨rfl, Below.refl _ _⟩
  | true =>
    have hl : 0 < m.length := by have := of_decide_eq_true hb1.symm; omega
    clear hb1 hb2 hb3 hb4
    obtain ⟨b, off, u, rfl, hc1, hu⟩ := R.out.row 0 hl
    rw [Nat.add_zero] at hc1
    obtain ⟨r, hr⟩ : ∃ r, r = m.getD 0 [] := ⟨_, rfl⟩
    rw [← hr] at hu
    have B2' := B2.out
    have B3' := B3.out
    rw [← hr] at B2' B3'
    have B2 := hide B2'
    have B3 := hide B3'
    clear B2' B3' hr
    obtain ⟨ua, uc, rfl, _⟩ := hu
    have hl' : (0 : Int) < (m.length : Int) := by omega
    go_enter Tryd.func170, Tryd.ntmps170
    go_wp2_with fail
    refine (isSide_calls _ _).mono ?_
    rw [← B1.out]
    rintro e w' ⟨rfl, rfl⟩
    go_wp2_with fail
    refine (isSide_calls _ _).mono ?_
    rw [← B2.out]
    rintro e w' ⟨rfl, rfl⟩
    cases b2 with
    | false =>
      go_wp2
      go_ret
      exact ⟨rfl, Below.refl _ _⟩
    | true =>
      go_wp2_with fail
      refine (areAllLong_calls _ m _ _ R.out).mono ?_
      rw [← B3.out]
      rintro e w1 ⟨rfl, hb⟩
      have B := hide hb
      clear hb
      cases b3 with
      | false =>
        go_wp2
        go_ret
        exact ⟨rfl, B.out⟩
      | true =>
        go_wp2_with fail
        refine (allEls_calls _ m _ (R.out.below B.out)).mono ?_
        rw [← B4.out]
        rintro e w' ⟨rfl, rfl⟩
        go_wp2
        go_ret
        exact ⟨rfl, B.out⟩

set_option maxRecDepth 100000 in
set_option maxHeartbeats 800000 in
theorem sGoodMatrix_calls (v : Value) (m : List (List Int)) (w : World) (h : RdM w v m) :
    Calls Tryd.prog 169 #[v] w fun e w' => e = .returned (.bool (goodM m)) ∧ w = w' := by
  have R := hide h
  obtain ⟨a, cap, rfl, h1, h2, h3⟩ := h
  have hm : m.length ≤ maxLen := by omega
  unfold maxLen at hm
  clear h3 h2 h1
  obtain ⟨gd, hgd⟩ : ∃ b, b = goodM m := ⟨_, rfl⟩
  rw [← hgd]
  have G := hide hgd
  clear hgd
  obtain ⟨r0, hr0⟩ : ∃ r, r = m.getD 0 [] := ⟨_, rfl⟩
  have R0 := hide hr0
  clear hr0
  go_enter Tryd.func169, Tryd.ntmps169
  go_wp2
  go_loop [7] (fun vi => ∃ k : Nat, k ≤ m.length ∧ vi = .int .i64 k ∧ ∀ i, i < k → (m.getD i []).length = r0.length ∧ (m.getD i []).all Gf.elOk = true) (fun vi => m.length - (intOf vi).toNat)
  case atStart => exact ⟨0, Nat.zero_le _, rfl, fun i hi => by omega⟩
  case round =>
    obtain ⟨k, hk, rfl, hall⟩ := hrel
    have A := hide hall
    clear hall
    by_cases hlt : k < m.length
    · have hlt' : (k : Int) < (m.length : Int) := by omega
      have hl' : (0 : Int) < (m.length : Int) := by omega
      obtain ⟨b, off, u, rfl, hc1, hu⟩ := R.out.row k hlt
      obtain ⟨b', off', u', hbb, hc0, hu'⟩ := R.out.row 0 (by omega)
      simp only [Option.some.injEq, Addr.mk.injEq, and_true] at hbb
      obtain ⟨rfl, rfl⟩ := hbb
      rw [Nat.add_zero] at hc0
      obtain ⟨r, hr⟩ : ∃ r, r = m.getD k [] := ⟨_, rfl⟩
      rw [← hr] at hu
      rw [← R0.out] at hu'
      have U := hide hu
      have Hr := hide hr
      obtain ⟨ua, uc, rfl, _⟩ := hu
      obtain ⟨ua', uc', rfl, _⟩ := hu'
      clear hr
      by_cases hlen : r.length = r0.length
      · have e1 : ((r.length : Int) == (r0.length : Int)) = true := by simp [hlen]
        have e2 : ¬ ((r.length : Int) ≠ (r0.length : Int)) := by omega
        have HL := hide hlen
        clear hlen
        obtain ⟨q, hq⟩ : ∃ q, q = r.all Gf.elOk := ⟨_, rfl⟩
        have Q := hide hq
        clear hq
        cases q with
        | true =>
          go_wp2_with (go_at_call 69; refine (Gf.l1All_calls _ r _ U.out).mono ?_; rw [← Q.out]; rintro e w' ⟨rfl, rfl⟩)
          go_round
          case rel =>
            refine ⟨k + 1, by omega, by go_num, fun i hi => ?_⟩
            by_cases e : i = k
            · subst e; rw [← Hr.out]; exact ⟨HL.out, Q.out.symm⟩
            · exact A.out i (by omega)
          case measure => simp [intOf]; omega
        | false =>
          go_wp2_with (go_at_call 69; refine (Gf.l1All_calls _ r _ U.out).mono ?_; rw [← Q.out]; rintro e w' ⟨rfl, rfl⟩)
          go_ret
          refine ⟨Gf.ret_bool ?_, rfl⟩
          rw [G.out]
          cases hh : goodM m with
          | false => rfl
          | true =>
            have := ((goodM_rows hh).2.2.2.2 k hlt).2
            rw [← Hr.out, ← Q.out] at this
            cases this
      · have e1 : ((r.length : Int) == (r0.length : Int)) = false := by simp; omega
        go_wp2
        go_ret
        refine ⟨Gf.ret_bool ?_, rfl⟩
        rw [G.out]
        cases hh : goodM m with
        | false => rfl
        | true =>
          have := ((goodM_rows hh).2.2.2.2 k hlt).1
          rw [← Hr.out, ← R0.out] at this
          exact absurd this hlen
    · obtain rfl : k = m.length := by omega
      obtain ⟨b1, hb1⟩ : ∃ b, b = decide (1 ≤ (m.length : Int) ∧ (m.length : Int) ≤ 8) := ⟨_, rfl⟩
      obtain ⟨b2, hb2⟩ : ∃ b, b = decide (1 ≤ (r0.length : Int) ∧ (r0.length : Int) ≤ 8) := ⟨_, rfl⟩
      have hg : gd = (b1 && b2) := by
        rw [G.out, hb1, hb2]
        unfold goodM
        rw [← R0.out, all_yes (d := []) (p := fun r : List Int => decide ((r.length : Int) = (r0.length : Int))) (fun i hi => by have := (A.out i hi).1; simp only [decide_eq_true_eq]; omega), all_yes (d := []) (p := fun r : List Int => r.all Gf.elOk) (fun i hi => (A.out i hi).2), Bool.and_true, Bool.and_true]
      have G2 := hide hg
      have B1 := hide hb1
      have B2 := hide hb2
      cases b1 with
      | false =>
        clear hb1 hb2 hg
        go_wp2_with fail
        refine (Gf.l1In_calls _ _ _ _).mono ?_
        rw [← B1.out]
        rintro e w' ⟨rfl, rfl⟩
        go_wp2
        go_ret
        exact ⟨Gf.ret_bool G2.out.symm, rfl⟩
      | true =>
        have hl : 0 < m.length := by have := of_decide_eq_true hb1.symm; omega
        clear hb1 hb2 hg
        obtain ⟨b, off, u, rfl, hc1, hu⟩ := R.out.row 0 hl
        rw [Nat.add_zero] at hc1
        rw [← R0.out] at hu
        obtain ⟨ua, uc, rfl, _⟩ := hu
        have hl' : (0 : Int) < (m.length : Int) := by omega
        go_wp2_with fail
        refine (Gf.l1In_calls _ _ _ _).mono ?_
        rw [← B1.out]
        rintro e w' ⟨rfl, rfl⟩
        go_wp2_with fail
        refine (Gf.l1In_calls _ _ _ _).mono ?_
        rw [← B2.out]
        rintro e w' ⟨rfl, rfl⟩
        go_wp2
        go_ret
        exact ⟨Gf.ret_bool (by rw [G2.out]; rfl), rfl⟩
end Go.Proofs.YtogopakmebiomaaDoor
