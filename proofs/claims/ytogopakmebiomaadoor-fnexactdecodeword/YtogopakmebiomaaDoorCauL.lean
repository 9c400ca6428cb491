/-
  Facts for the law of Cauchy's matrices: parts of unlike lists, each element's inverse, each row times the answer.
-/
import Derived.Test.YtogopakmebiomaaDoorKern3
import Derived.Test.YtogopakmebiomaaDoorSolveP
namespace Go.Proofs.YtogopakmebiomaaDoor
open Go.RowKit
open Gf (ci nat ciM colN colL solN identN dotTo AllLt Sh)

theorem unl_sub {l l' : List Int} (h : l'.Sublist l) (hu : unl l = true) : unl l' = true := by
  unfold unl at hu ⊢
  simp only [Bool.and_eq_true, decide_eq_true_eq, List.all_eq_true] at hu ⊢
  exact ⟨hu.1.sublist h, fun x hx => hu.2 x (h.subset hx)⟩

theorem cau_part {xs ys : List Int} {p n : Nat} (h : cauOk xs ys = true) (hn : 1 ≤ n) (hy : n ≤ ys.length) (hx : p + n ≤ xs.length) :
    cauOk ((xs.drop p).take n) (ys.drop (ys.length - n)) = true ∧ (invR (cauM ((xs.drop p).take n) (ys.drop (ys.length - n)))).2 = true := by
  obtain ⟨⟨h1, h2⟩, ⟨h3, h4⟩, hu⟩ := cauOk_facts h
  have lx : ((xs.drop p).take n).length = n := by simp; omega
  have ly : (ys.drop (ys.length - n)).length = n := by simp; omega
  have hu' : unl ((xs.drop p).take n ++ ys.drop (ys.length - n)) = true :=
    unl_sub (List.Sublist.append ((List.take_sublist _ _).trans (List.drop_sublist _ _)) (List.drop_sublist _ _)) hu
  refine ⟨?_, cau_inv lx ly hn (by omega) hu'⟩
  simp only [cauOk, Bool.and_eq_true, decide_eq_true_eq]
  exact ⟨by omega, by omega, hu'⟩

theorem el_at {xs : List Int} (h : xs.all Gf.elOk = true) (i : Nat) : 0 ≤ xs.getD i 0 ∧ xs.getD i 0 ≤ 255 := by
  by_cases hi : i < xs.length
  · exact Gf.elOk_iff.1 (Gf.all_of_getD.1 h i hi)
  · rw [List.getD_eq_getElem?_getD, List.getElem?_eq_none (by omega)]; simp

theorem cau_one {xs ys : List Int} (h : cauOk xs ys = true) {i k : Nat} (hi : i < xs.length) (hk : k < ys.length) :
    ∃ a x y : Nat, a < 256 ∧ x < 256 ∧ y < 256 ∧ ((cauM xs ys).getD i []).getD k 0 = (a : Int) ∧ xs.getD i 0 = (x : Int) ∧ ys.getD k 0 = (y : Int) ∧ bits .xor .i64 (x : Int) (y : Int) = ((x ^^^ y : Nat) : Int) ∧ x ^^^ y < 256 ∧ Gf.mul a (x ^^^ y) = 1 := by
  obtain ⟨_, _, hu⟩ := cauOk_facts h
  obtain ⟨ex, ey⟩ := unl_parts hu
  have bx := el_at ex i
  have bY := el_at ey k
  have nd : (xs ++ ys).Pairwise (· ≠ ·) := by
    unfold unl at hu
    simp only [Bool.and_eq_true, decide_eq_true_eq] at hu
    exact hu.1
  have hne : xs.getD i 0 ≠ ys.getD k 0 := by
    have := (List.pairwise_append.1 nd).2.2 xs[i] (List.getElem_mem hi) ys[k] (List.getElem_mem hk)
    simpa [List.getD_eq_getElem?_getD, hi, hk] using this
  obtain ⟨x, hx⟩ : ∃ x, x = (xs.getD i 0).toNat := ⟨_, rfl⟩
  obtain ⟨y, hy⟩ : ∃ y, y = (ys.getD k 0).toNat := ⟨_, rfl⟩
  have x256 : x < 256 := by omega
  have y256 : y < 256 := by omega
  have n0 : x ^^^ y ≠ 0 := fun e => hne (by have := Gf.xor_zero_eq e; omega)
  have xl := Gf.xor_lt x256 y256
  refine ⟨Gf.inv (x ^^^ y), x, y, Gf.inv_lt _, x256, y256, ?_, by omega, by omega, Gf.xor_o x256 y256, xl, ?_⟩
  · rw [cauM_get _ _ _ hi, cauRow_get _ _ _ hk, hx, hy]
  · rw [Gf.mul_comm _ _ (Gf.inv_lt _) xl]
    exact Gf.mul_inv _ xl n0

theorem nat_ci (l : List Nat) : nat (ci l) = l := by
  unfold Gf.nat Gf.ci
  rw [List.map_map]
  conv => rhs; rw [← List.map_id l]
  apply List.map_congr_left
  intro a _
  simp

theorem slv_facts {m : List (List Int)} {v : List Int} (h : (slvR m v).2 = true) :
    ∃ S : List Nat, (slvR m v).1 = ci S ∧ S.length = m.length ∧ v.length = m.length ∧ m.length ≤ 8 ∧ AllLt S ∧ v.all Gf.elOk = true ∧
      (∀ i, i < m.length → (m.getD i []).length = m.length ∧ (m.getD i []).all Gf.elOk = true) ∧ ∀ i, i < m.length → dotTo (nat (m.getD i [])) S m.length = (v.getD i 0).toNat := by
  unfold slvR at h ⊢
  by_cases hok : slvOk m v = true
  · rw [if_pos hok] at h ⊢
    simp only [] at h ⊢
    simp only [slvOk, Bool.and_eq_true, decide_eq_true_eq] at hok
    obtain ⟨hsq, hvl, hve⟩ := hok
    obtain ⟨hg, hs0⟩ := sqOk_facts hsq
    obtain ⟨g1, g2, g3, g4, g5⟩ := goodM_rows hg
    have ha := sh_sq hsq
    have hI := Gf.sh_ident m.length
    have hV : AllLt (nat v) := by
      intro j
      have := el_at hve j
      have e : (nat v).getD j 0 = (v.getD j 0).toNat := by
        unfold Gf.nat
        by_cases hj : j < v.length
        · simp [List.getD_eq_getElem?_getD, hj]
        · simp [List.getD_eq_getElem?_getD, hj]
      rw [e]
      omega
    have hVl : (nat v).length = m.length := by unfold Gf.nat; rw [List.length_map]; exact hvl
    cases e : Gf.invTo (m.map nat) (identN m.length) m.length with
    | none => unfold Gf.solN at h; rw [ha.len, e] at h; cases h
    | some q =>
      obtain ⟨h1, h2⟩ := Gf.invTo_sh ha hI m.length (Nat.le_refl _) q e
      have hs : solN (m.map nat) (identN m.length) = (q.2, true) := by unfold Gf.solN; rw [ha.len, e]
      have hc : solN (m.map nat) (colN (nat v)) = (q.2.map (colL (nat v) m.length), true) := by
        rw [Gf.col_ident hV hVl, Gf.solN_map (Gf.lin_col hV) ha hI, hs]
      have hr := Gf.solve_right ha hV hVl (by rw [hc])
      rw [hc] at hr
      simp only [] at hr
      have em : (q.2.map (colL (nat v) m.length)).map (fun r => r.getD 0 0) = mulC q.2 (nat v) := by
        unfold mulC
        rw [List.map_map, hVl]
        rfl
      rw [em] at hr
      rw [hs]
      simp only []
      refine ⟨_, rfl, by unfold mulC; rw [List.length_map, h2.len], hvl, g2, ?_, hve, fun i hi => ⟨by rw [(g5 i hi).1, ← hs0], (g5 i hi).2⟩, fun i hi => ?_⟩
      · intro j
        unfold mulC
        by_cases hj : j < q.2.length
        · have : (q.2.map fun r => dotTo r (nat v) (nat v).length).getD j 0 = dotTo (q.2.getD j []) (nat v) (nat v).length := by simp [List.getD_eq_getElem?_getD, hj]
          rw [this]
          exact Gf.dotTo_lt (fun k => h2.elt j k) _
        · rw [List.getD_eq_getElem?_getD, List.getElem?_eq_none (by simp; omega)]; decide
      · have := hr i hi
        have e1 : (m.map nat).getD i [] = nat (m.getD i []) := by simp [List.getD_eq_getElem?_getD, hi]
        have e2 : (nat v).getD i 0 = (v.getD i 0).toNat := by unfold Gf.nat; simp [List.getD_eq_getElem?_getD, hvl, hi]
        rw [e1, e2] at this
        exact this
  · rw [if_neg hok] at h
    cases h
end Go.Proofs.YtogopakmebiomaaDoor
