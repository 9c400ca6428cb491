/-
  Which places of a word a rule tells: by values at inverted points, and by division; that both tell the same. Plain mathematics. No condition.
-/
import Derived.Test.YtogopakmebiomaaDoorVand
import Derived.Test.YtogopakmebiomaaDoorBm
namespace Go.Proofs.YtogopakmebiomaaDoor
namespace Gf

/-- 2 to the p, and its inverse. -/
def p2 (p : Nat) : Nat := pow 2 p
def ip (p : Nat) : Nat := inv (pow 2 p)
theorem p2_tab : allB 64 (fun p => p2 p != 0 && (p2 p == px 2 p)) = true := by decide +kernel
theorem p2_ne {p : Nat} (h : p < 64) : p2 p ≠ 0 := by
  have := allB_of p2_tab p h
  simp at this
  exact this.1
theorem p2_px {p : Nat} (h : p < 64) : p2 p = px 2 p := by
  have := allB_of p2_tab p h
  simp at this
  exact this.2
theorem p2_lt (p : Nat) : p2 p < 256 := pow_lt _ _
theorem ip_lt (p : Nat) : ip p < 256 := inv_lt _
theorem p2_ip {p : Nat} (h : p < 64) : mul (p2 p) (ip p) = 1 := mul_inv _ (p2_lt p) (p2_ne h)
theorem p2_inj_tab : allB 24 (fun p => allB 24 (fun q => p == q || p2 p != p2 q)) = true := by decide +kernel
theorem p2_inj {p q : Nat} (hp : p < 24) (hq : q < 24) (h : p2 p = p2 q) : p = q := by
  have := allB_of (allB_of p2_inj_tab p hp) q hq
  simp [h] at this
  exact this
theorem cross_ne {p q : Nat} (hp : p < 24) (hq : q < 24) (h : p ≠ q) : mul (p2 p) (ip q) ^^^ 1 ≠ 0 := by
  intro e
  have e1 := xor_zero_eq e
  apply h
  apply p2_inj hp hq
  have e2 : mul (mul (p2 p) (ip q)) (p2 q) = mul 1 (p2 q) := by rw [e1]
  rw [mul_assoc _ _ _ (p2_lt p) (ip_lt q) (p2_lt q), mul_comm (ip q) _ (ip_lt q) (p2_lt q), p2_ip (by omega), mul_one _ (p2_lt p), one_mul _ (p2_lt q)] at e2
  exact e2

/-- What a place divides by. -/
def dvP (p : Nat) : List Int := [1, ((p2 p : Nat) : Int)]
theorem dvP_good {p : Nat} (h : p < 64) : goodP (dvP p) = true := by
  have h1 := p2_lt p
  have h2 := p2_ne h
  simp [goodP, dvP, elOk]
  omega
theorem dvP_ev (p x : Nat) (hx : x < 256) : ev x (dvP p) = mul (p2 p) x ^^^ 1 := by
  show mul (mul 0 x ^^^ ((p2 p : Nat) : Int).toNat) x ^^^ (1 : Int).toNat = _
  rw [zero_mul hx, Nat.zero_xor, Int.toNat_natCast]
  rfl

/-- The places below L whose inverted points are roots. -/
def plcN (c : List Int) : Nat → List Int
  | 0 => []
  | p + 1 => if ev (ip p) c = 0 then plcN c p ++ [(p : Int)] else plcN c p
theorem plcN_yes {c : List Int} {p : Nat} (h : ev (ip p) c = 0) : plcN c (p + 1) = plcN c p ++ [(p : Int)] := by rw [plcN, if_pos h]
theorem plcN_no {c : List Int} {p : Nat} (h : ¬ ev (ip p) c = 0) : plcN c (p + 1) = plcN c p := by rw [plcN, if_neg h]
theorem plcN_le (c : List Int) (L : Nat) : (plcN c L).length ≤ L := by
  induction L with
  | zero => exact Nat.le_refl _
  | succ L ih =>
    rw [plcN]
    split
    · rw [List.length_append]; show _ + 1 ≤ _; omega
    · omega
theorem plcN_same {c : List Int} {p : Nat} : ∀ m, (∀ j, p ≤ j → j < p + m → ¬ ev (ip j) c = 0) → plcN c (p + m) = plcN c p
  | 0, _ => rfl
  | m + 1, h => by rw [← Nat.add_assoc, plcN_no (h (p + m) (by omega) (by omega)), plcN_same m (fun j h1 h2 => h j h1 (by omega))]

/-- What is left to divide, behind the places below p: roots from there on are the rule's. -/
structure Lft (c r : List Int) (p : Nat) : Prop where
  good : goodP r = true
  pos : 1 ≤ r.length
  sum : r.length + (plcN c p).length = c.length
  iff : ∀ j, p ≤ j → j < 24 → (ev (ip j) c = 0 ↔ ev (ip j) r = 0)
theorem Lft.start {c : List Int} (h : goodP c = true) (h1 : 1 ≤ c.length) : Lft c c 0 := ⟨h, h1, by simp [plcN], fun _ _ _ => Iff.rfl⟩
theorem div_root {r : List Int} {p : Nat} (hr : goodP r = true) (h2 : 2 ≤ r.length) (hp : p < 24) :
    (divR r (dvP p)).2.2 = true ∧ (divR r (dvP p)).1.length = r.length - 1 ∧ goodP (divR r (dvP p)).1 = true ∧ ((divR r (dvP p)).2.1.length = 0 ↔ ev (ip p) r = 0) ∧
      ((divR r (dvP p)).2.1.length = 0 → ∀ j, j < 24 → j ≠ p → (ev (ip j) r = 0 ↔ ev (ip j) (divR r (dvP p)).1 = 0)) := by
  have hd := dvP_good (p := p) (by omega)
  have hl : (dvP p).length = 2 := rfl
  have hy := divR_yes hr hd (by rw [hl]; omega) (by rw [hl]; omega)
  have hok : (divR r (dvP p)).2.2 = true := by rw [hy]
  obtain ⟨_, _, hq, hrest, hlt, hev⟩ := div_facts hok
  have hql : (divR r (dvP p)).1.length = r.length - 1 := by
    rw [hy]
    show (ci _).length = _
    rw [ci_length, dv_len2, hl]
    omega
  have hrl : (divR r (dvP p)).2.1.length < 2 := hlt
  refine ⟨hok, hql, hq, ?_, ?_⟩
  · have e := hev (ip p) (ip_lt p)
    rw [dvP_ev _ _ (ip_lt p), p2_ip (by omega), Nat.xor_self, zero_mul (by rw [ev_good hq]; exact evn_lt (nat_ltp (goodP_mem hq))), Nat.zero_xor] at e
    rw [← e]
    generalize hR : (divR r (dvP p)).2.1 = R at *
    match R, hrest, hrl with
    | [], _, _ => simp [ev]
    | [v], hg, _ =>
      have h0 := goodP_last hg (by simp)
      have hv := goodP_all hg 0 (by simp)
      simp only [List.length_cons, List.length_nil, Nat.zero_add, Nat.sub_self] at h0
      have h0' : v ≠ 0 := h0
      have hv' : 0 ≤ v ∧ v ≤ 255 := hv
      constructor
      · intro h; simp at h
      · intro h
        exfalso
        have e3 : mul 0 (ip p) ^^^ v.toNat = 0 := h
        rw [zero_mul (ip_lt p), Nat.zero_xor] at e3
        omega
    | _ :: _ :: _, _, h => exact absurd h (by simp)
  · intro h0 j hj hne
    have e := hev (ip j) (ip_lt j)
    have hR : (divR r (dvP p)).2.1 = [] := List.eq_nil_of_length_eq_zero h0
    rw [hR, dvP_ev _ _ (ip_lt j)] at e
    have e' : mul (mul (p2 p) (ip j) ^^^ 1) (ev (ip j) (divR r (dvP p)).1) ^^^ 0 = ev (ip j) r := e
    rw [Nat.xor_zero] at e'
    rw [← e']
    constructor
    · intro h
      rcases mul_eq_zero _ _ (xor_lt (mul_lt (p2_lt p)) (by omega)) (by rw [ev_good hq]; exact evn_lt (nat_ltp (goodP_mem hq))) h with h | h
      · exact absurd h (cross_ne hp hj (fun e => hne e.symm))
      · exact h
    · intro h
      rw [h, mul_zero]
theorem Lft.skip {c r : List Int} {p : Nat} (h : Lft c r p) (hp : p < 24) (h0 : ¬ ev (ip p) r = 0) : Lft c r (p + 1) ∧ plcN c (p + 1) = plcN c p := by
  have e := plcN_no (c := c) (p := p) (fun e => h0 ((h.iff p (Nat.le_refl _) hp).1 e))
  exact ⟨⟨h.good, h.pos, by rw [e]; exact h.sum, fun j h1 h2 => h.iff j (by omega) h2⟩, e⟩
theorem Lft.take {c r : List Int} {p : Nat} (h : Lft c r p) (hp : p < 24) (h2 : 2 ≤ r.length) (h0 : (divR r (dvP p)).2.1.length = 0) : Lft c (divR r (dvP p)).1 (p + 1) ∧ plcN c (p + 1) = plcN c p ++ [(p : Int)] := by
  obtain ⟨_, hl, hg, hi, hj⟩ := div_root h.good h2 hp
  have e := plcN_yes (c := c) (p := p) ((h.iff p (Nat.le_refl _) hp).2 (hi.1 h0))
  refine ⟨⟨hg, by omega, ?_, fun j h1 h3 => (h.iff j (by omega) h3).trans (hj h0 j h3 (by omega))⟩, e⟩
  rw [e, List.length_append, hl]
  have := h.sum
  show r.length - 1 + (_ + 1) = _
  omega
def rtR (c : List Int) (L : Nat) : List Int × Bool := if (plcN c L).length = c.length - 1 then (plcN c L, true) else ([], false)
theorem Lft.done {c r : List Int} {p L : Nat} (h : Lft c r p) (h1 : r.length = 1) (hpL : p ≤ L) (hL : L ≤ 24) : rtR c L = (plcN c p, true) := by
  have hr : ∀ x, x < 256 → ¬ ev x r = 0 := by
    intro x hx
    have hg := h.good
    match r, h1, hg with
    | [v], _, hg =>
      have h0 : v ≠ 0 := goodP_last hg (by simp)
      have hv : 0 ≤ v ∧ v ≤ 255 := goodP_all hg 0 (by simp)
      show ¬ mul 0 x ^^^ v.toNat = 0
      rw [zero_mul hx, Nat.zero_xor]
      omega
  have e := plcN_same (c := c) (p := p) (L - p) (fun j h3 h4 => fun e => hr _ (ip_lt j) ((h.iff j h3 (by omega)).1 e))
  rw [show p + (L - p) = L from by omega] at e
  unfold rtR
  rw [e, if_pos (by have := h.sum; omega)]
theorem Lft.fail {c r : List Int} {L : Nat} (h : Lft c r L) (h1 : 2 ≤ r.length) : rtR c L = ([], false) := by
  unfold rtR
  rw [if_neg (by have := h.sum; omega)]

end Gf
end Go.Proofs.YtogopakmebiomaaDoor
