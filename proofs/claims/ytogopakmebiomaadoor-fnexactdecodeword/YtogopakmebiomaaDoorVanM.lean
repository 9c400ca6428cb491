/-
  Powers of unlike points as a matrix: it has an inverse; a word changed at places. Plain mathematics over the functions' answers. No condition.
-/
import Derived.Test.YtogopakmebiomaaDoorRoot
import Derived.Test.YtogopakmebiomaaDoorKern2
import Derived.Test.YtogopakmebiomaaDoorSolveP
namespace Go.Proofs.YtogopakmebiomaaDoor
open Go.RowKit
open Gf (ci nat ciM Sh AllLt dotTo solN identN colN colL p2 vs px plcN ev ip)

/-- Places of a word: below 24, rising. -/
def PlOk (ps : List Int) : Prop := ∀ i, i < ps.length → 0 ≤ ps.getD i 0 ∧ ps.getD i 0 < 24 ∧ ∀ j, j < i → ps.getD j 0 < ps.getD i 0
theorem plcN_ok (c : List Int) : ∀ L, L ≤ 24 → PlOk (plcN c L) ∧ ∀ i, i < (plcN c L).length → (plcN c L).getD i 0 < (L : Int)
  | 0, _ => ⟨fun i hi => by simp [Gf.plcN] at hi, fun i hi => by simp [Gf.plcN] at hi⟩
  | L + 1, h => by
    obtain ⟨h1, h2⟩ := plcN_ok c L (by omega)
    by_cases hz : ev (ip L) c = 0
    · rw [Gf.plcN_yes hz]
      have hl : (plcN c L ++ [(L : Int)]).length = (plcN c L).length + 1 := by simp
      have ha : ∀ i, i < (plcN c L).length → (plcN c L ++ [(L : Int)]).getD i 0 = (plcN c L).getD i 0 := fun i hi => by
        rw [List.getD_eq_getElem?_getD, List.getElem?_append_left hi, List.getD_eq_getElem?_getD]
      have hb : (plcN c L ++ [(L : Int)]).getD (plcN c L).length 0 = (L : Int) := by
        rw [List.getD_eq_getElem?_getD, List.getElem?_append_right (Nat.le_refl _), Nat.sub_self]; rfl
      refine ⟨fun i hi => ?_, fun i hi => ?_⟩
      · rw [hl] at hi
        by_cases he : i = (plcN c L).length
        · subst he
          rw [hb]
          refine ⟨by omega, by omega, fun j hj => ?_⟩
          rw [ha j hj]
          exact h2 j hj
        · rw [ha i (by omega)]
          obtain ⟨a, b, d⟩ := h1 i (by omega)
          refine ⟨a, b, fun j hj => ?_⟩
          rw [ha j (by omega)]
          exact d j hj
      · rw [hl] at hi
        by_cases he : i = (plcN c L).length
        · subst he
          rw [hb]
          omega
        · rw [ha i (by omega)]
          have := h2 i (by omega)
          omega
    · rw [Gf.plcN_no hz]
      exact ⟨h1, fun i hi => by have := h2 i hi; omega⟩
namespace Gf
theorem px_px {x : Nat} (hx : x < 256) (p k : Nat) : px (px x p) k = px x (p * k) := by
  induction k with
  | zero => rfl
  | succ k ih => rw [px, ih, Nat.mul_succ, px_add hx]
theorem pow_px {p k : Nat} (hp : p < 24) (hk : k < 3) : pow 2 (p * k) = px (p2 p) k := by
  have h : p * k < 64 := by
    have : p * k ≤ 23 * 2 := Nat.mul_le_mul (by omega) (by omega)
    omega
  have e := p2_px h
  rw [p2_px (p := p) (by omega), px_px (by omega), ← e]
  rfl
end Gf
def vanRow (ps : List Int) (k : Nat) : List Int := ps.map fun p => ((Gf.pow 2 (p.toNat * k) : Nat) : Int)
def vanM (ps : List Int) : List (List Int) := (List.range ps.length).map (vanRow ps)
theorem vanRow_length (ps : List Int) (k : Nat) : (vanRow ps k).length = ps.length := by simp [vanRow]
theorem vanRow_get (ps : List Int) (k j : Nat) (h : j < ps.length) : (vanRow ps k).getD j 0 = ((Gf.pow 2 ((ps.getD j 0).toNat * k) : Nat) : Int) := by
  simp [vanRow, List.getD_eq_getElem?_getD, h]
theorem vanM_length (ps : List Int) : (vanM ps).length = ps.length := by simp [vanM]
theorem vanM_get (ps : List Int) (k : Nat) (h : k < ps.length) : (vanM ps).getD k [] = vanRow ps k := by simp [vanM, h]
theorem vanRow_all (ps : List Int) (k : Nat) : (vanRow ps k).all Gf.elOk = true := by
  rw [List.all_eq_true]
  intro x hx
  obtain ⟨p, _, rfl⟩ := List.mem_map.1 hx
  have := Gf.pow_lt 2 (p.toNat * k)
  exact Gf.elOk_iff.2 (by omega)
theorem vanM_sq {ps : List Int} (h1 : 1 ≤ ps.length) (h3 : ps.length ≤ 3) : sqOk (vanM ps) = true := by
  have hl := vanM_length ps
  have h0 := vanM_get ps 0 (by omega)
  have hr : (vanRow ps 0).length = ps.length := vanRow_length ps 0
  have hg : goodM (vanM ps) = true := by
    simp only [goodM, Bool.and_eq_true, decide_eq_true_eq]
    rw [h0, hr, hl]
    refine ⟨by omega, by omega, all_yes (d := []) (fun i hi => ?_), all_yes (d := []) (fun i hi => ?_)⟩
    · rw [vanM_get _ _ (by rw [hl] at hi; exact hi), vanRow_length]; simp
    · rw [vanM_get _ _ (by rw [hl] at hi; exact hi)]; exact vanRow_all _ _
  unfold sqOk
  rw [hg, h0, hr, hl]
  simp
theorem van_kern {ps : List Int} (hp : PlOk ps) (h3 : ps.length ≤ 3) (z : List Nat) (hzl : z.length = ps.length) (hz : AllLt z)
    (h : ∀ i, i < ps.length → dotTo (nat (vanRow ps i)) z ps.length = 0) : ∀ j, j < ps.length → z.getD j 0 = 0 := by
  have hX : ∀ i, i < ps.length → dotTo (nat (vanRow ps i)) z ps.length = vs (fun j => z.getD j 0) (fun j => p2 (ps.getD j 0).toNat) i ps.length := by
    intro i hi
    have key : ∀ m, m ≤ ps.length → dotTo (nat (vanRow ps i)) z m = vs (fun j => z.getD j 0) (fun j => p2 (ps.getD j 0).toNat) i m := by
      intro m
      induction m with
      | zero => intro _; rfl
      | succ m ih =>
        intro hm
        rw [Gf.dotTo, Gf.vs, ih (by omega)]
        have e : (nat (vanRow ps i)).getD m 0 = px (p2 (ps.getD m 0).toNat) i := by
          have h1 : (nat (vanRow ps i)).getD m 0 = ((vanRow ps i).getD m 0).toNat := by
            unfold Gf.nat
            simp [List.getD_eq_getElem?_getD, show m < (vanRow ps i).length by rw [vanRow_length]; omega]
          rw [h1, vanRow_get _ _ _ (by omega), Int.toNat_natCast]
          obtain ⟨a, b, _⟩ := hp m (by omega)
          exact Gf.pow_px (by omega) (by omega)
        rw [e, Gf.mul_comm _ _ (Gf.px_lt _ _) (hz m)]
    exact key _ (Nat.le_refl _)
  refine Gf.vand_zero ps.length (fun j => z.getD j 0) (fun j => p2 (ps.getD j 0).toNat) hz (fun j => Gf.p2_lt _) ?_ (fun k hk => by rw [← hX k hk]; exact h k hk)
  intro i j hi hj hne e
  obtain ⟨a1, b1, c1⟩ := hp i hi
  obtain ⟨a2, b2, c2⟩ := hp j hj
  have := Gf.p2_inj (by omega) (by omega) e
  rcases Nat.lt_or_gt_of_ne hne with h | h
  · have := c2 i h; omega
  · have := c1 j h; omega
theorem van_ok {ps v : List Int} (hp : PlOk ps) (h1 : 1 ≤ ps.length) (h3 : ps.length ≤ 3) (hv : v.length = ps.length) (hve : v.all Gf.elOk = true) : (slvR (vanM ps) v).2 = true := by
  have hsq := vanM_sq h1 h3
  have hok : slvOk (vanM ps) v = true := by
    simp only [slvOk, Bool.and_eq_true, decide_eq_true_eq]
    exact ⟨hsq, by rw [vanM_length]; exact hv, hve⟩
  unfold slvR
  rw [if_pos hok]
  have ha := sh_sq hsq
  show (solN ((vanM ps).map nat) (identN (vanM ps).length)).2 = true
  refine Gf.solN_ok (n := (vanM ps).length) ha (Gf.sh_ident _) ?_
  intro z hzl hz h
  rw [vanM_length] at hzl h ⊢
  refine van_kern hp h3 z hzl hz (fun i hi => ?_)
  have := h i hi
  rwa [show ((vanM ps).map nat).getD i [] = nat (vanRow ps i) from by simp [List.getD_eq_getElem?_getD, vanM, hi]] at this

/-- A word changed at the first i of the places. -/
def fixN (X S : List Nat) (ps : List Int) : Nat → List Nat
  | 0 => X
  | i + 1 => Gf.xorAt (fixN X S ps i) (ps.getD i 0).toNat (S.getD i 0)
theorem fixN_length (X S : List Nat) (ps : List Int) (i : Nat) : (fixN X S ps i).length = X.length := by
  induction i with
  | zero => rfl
  | succ i ih => rw [fixN, Gf.xorAt, List.length_set, ih]
theorem fixN_lt {X S : List Nat} {ps : List Int} (hX : AllLt X) (hS : AllLt S) (i : Nat) : AllLt (fixN X S ps i) := by
  induction i with
  | zero => exact hX
  | succ i ih => rw [fixN]; exact ih.set _ _ (Gf.xor_lt (ih _) (hS i))
def fixW (xs ps ss : List Int) : List Int := ci (fixN (nat xs) (nat (slvR (vanM ps) (ss.take ps.length)).1) ps ps.length)
end Go.Proofs.YtogopakmebiomaaDoor
