/-
  Good rooms as maps of places. No condition.
-/
import Derived.Test.YtjffjoednmlkiaaRmx
namespace Go.Proofs.Ytjffjoednmlkiaa
open Go.RowKit Go.Maps Go.MapKept Go.ChangeMaps
set_option linter.unusedVariables false

theorem setAll_at : ∀ (L : List Hl) (G : Om) (k : Int), (∀ x, x ∈ L → 0 ≤ x.1 ∧ x.1 < G.length) → (∀ x, x ∈ L → ∀ y, y ∈ L → x.1 = y.1 → x.2 = y.2) →
    (∀ o, (k, o) ∈ L → lkM (setAll G L) k = some o) ∧ ((∀ o, (k, o) ∉ L) → lkM (setAll G L) k = lkM G k)
  | [], G, k, _, _ => ⟨fun o h => by simp at h, fun _ => rfl⟩
  | x :: L, G, k, hr, hu => by
      have hx := hr x (by simp)
      have hxl : x.1.toNat < G.length := by omega
      have ih := setAll_at L (G.set x.1.toNat (some x.2)) k (fun y hy => by rw [List.length_set]; exact hr y (by simp [hy])) (fun y hy z hz => hu y (by simp [hy]) z (by simp [hz]))
      have e : setAll G (x :: L) = setAll (G.set x.1.toNat (some x.2)) L := rfl
      have ls := lkM_set G x.1.toNat (some x.2) hxl k
      have ec : ((x.1.toNat : Nat) : Int) = x.1 := by omega
      rw [ec] at ls
      rw [e]
      constructor
      · intro o ho
        by_cases hl : ∃ o', (k, o') ∈ L
        · obtain ⟨o', ho'⟩ := hl
          have : o' = o := hu (k, o') (by simp [ho']) (k, o) ho rfl
          subst this
          exact ih.1 _ ho'
        · have hxe : x = (k, o) := by
            rcases List.mem_cons.1 ho with h | h
            · exact h.symm
            · exact absurd ⟨o, h⟩ hl
          rw [ih.2 (fun o' ho' => hl ⟨o', ho'⟩), ls, hxe, if_pos rfl]
      · intro hn
        rw [ih.2 (fun o' ho' => hn o' (by simp [ho'])), ls, if_neg]
        intro hk
        exact hn x.2 (by rw [hk]; simp)
theorem lkM_none (k : Int) : lkM none32 k = none := by
  unfold lkM
  split
  · exact none32_getD _
  · rfl
theorem mem_allR : ∀ (m : List (List Int)) (s : Nat) (k o : Int), (k, o) ∈ allR s m ↔ ∃ i : Nat, i < m.length ∧ o = ((s + i : Nat) : Int) ∧ k ∈ m.getD i []
  | [], s, k, o => by simp [allR]
  | r :: m, s, k, o => by
      have ih := mem_allR m (s + 1) k o
      rw [show allR s (r :: m) = r.map (fun x => (x, (s : Int))) ++ allR (s + 1) m from rfl, List.mem_append, ih]
      constructor
      · rintro (h | ⟨i, h1, h2, h3⟩)
        · obtain ⟨x, hx, he⟩ := List.mem_map.1 h
          simp only [Prod.mk.injEq] at he
          obtain ⟨rfl, rfl⟩ := he
          exact ⟨0, by simp, by simp, by simpa using hx⟩
        · exact ⟨i + 1, by simp; omega, by rw [h2]; congr 1; omega, by simpa using h3⟩
      · rintro ⟨i, h1, h2, h3⟩
        cases i with
        | zero => exact .inl (List.mem_map.2 ⟨k, by simpa using h3, by rw [h2]; rfl⟩)
        | succ i => exact .inr ⟨i, by simpa using h1, by rw [h2]; congr 1; omega, by simpa using h3⟩
theorem two_cov {α : Type} (f : α → Bool) : ∀ (A : List α) (x y : α), x ∈ A → y ∈ A → x ≠ y → f x = true → f y = true → 2 ≤ A.countP f
  | [], x, y, h, _, _, _, _ => by simp at h
  | z :: A, x, y, hx, hy, hne, fx, fy => by
      rw [List.countP_cons]
      rcases List.mem_cons.1 hx with e1 | m1
      · rcases List.mem_cons.1 hy with e2 | m2
        · exact absurd (e1.trans e2.symm) hne
        · have : 0 < A.countP f := List.countP_pos_iff.2 ⟨y, m2, fy⟩
          rw [← e1, if_pos fx]; omega
      · rcases List.mem_cons.1 hy with e2 | m2
        · have : 0 < A.countP f := List.countP_pos_iff.2 ⟨x, m1, fx⟩
          rw [← e2, if_pos fy]; omega
        · have := two_cov f A x y m1 m2 hne fx fy
          omega
theorem adj_rise {α : Type} (f : α → Int) (d : α) : ∀ (xs : List α), (∀ i, i < xs.length → i = 0 ∨ f (xs.getD (i - 1) d) < f (xs.getD i d)) → xs.Pairwise (fun x y => f x < f y)
  | [], _ => List.Pairwise.nil
  | [x], _ => by simp
  | x :: y :: r, h => by
      have ih := adj_rise f d (y :: r) (fun i hi => by
        by_cases e : i = 0
        · exact .inl e
        · have := (h (i + 1) (by simpa using hi)).resolve_left (by omega)
          obtain ⟨j, rfl⟩ : ∃ j, i = j + 1 := ⟨i - 1, by omega⟩
          exact .inr (by simpa using this))
      have h0 : f x < f y := by
        have := (h 1 (by simp)).resolve_left (by omega)
        simpa using this
      refine List.pairwise_cons.2 ⟨fun z hz => ?_, ih⟩
      rcases List.mem_cons.1 hz with rfl | hz
      · exact h0
      · have := (List.pairwise_cons.1 ih).1 z hz
        omega
section
variable {m : List (List Int)} {hs : List Hl}
theorem RoomsOk.rmFree (h : RoomsOk m hs) {k o : Int} (hk : (k, o) ∈ allR 0 m) : rmP k o := by
  obtain ⟨i, h1, h2, h3⟩ := (mem_allR m 0 k o).1 hk
  rw [Nat.zero_add] at h2
  subst h2
  obtain ⟨j, hj, he⟩ := List.getElem_of_mem h3
  have := (h.rows i h1 j hj).1
  rw [List.getD_eq_getElem?_getD, List.getElem?_eq_getElem hj, Option.getD_some, he] at this
  exact this
theorem RoomsOk.rmHeld (h : RoomsOk m hs) {k o : Int} (hk : (k, o) ∈ hs) : rmP k o := by
  obtain ⟨j, hj, he⟩ := List.getElem_of_mem hk
  have := (h.held j hj).1
  rw [List.getD_eq_getElem?_getD, List.getElem?_eq_getElem hj, Option.getD_some, he] at this
  exact this
theorem rm_cvr {k o : Int} (h : rmP k o) (p : Nat) (h1 : k ≤ (p : Int)) (h2 : (p : Int) < k + pw o.toNat) : cvr p (k, o) = true := decide_eq_true ⟨h1, h2⟩
theorem rm_self {k o : Int} (h : rmP k o) : ∃ p : Nat, p < 32 ∧ (p : Int) = k ∧ cvr p (k, o) = true := by
  obtain ⟨_, _, h0, h1, _⟩ := h
  exact ⟨k.toNat, by omega, by omega, decide_eq_true ⟨by show k ≤ _; omega, by have := pw_pos o.toNat; show _ < k + pw o.toNat; omega⟩⟩
theorem RoomsOk.one (h : RoomsOk m hs) (p : Nat) (hp : p < 32) {x y : Hl} (hx : x ∈ allR 0 m ++ hs) (hy : y ∈ allR 0 m ++ hs) (cx : cvr p x = true) (cy : cvr p y = true) : x = y := by
  have hc := h.cov p hp
  by_cases e : x = y
  · exact e
  · have := two_cov (cvr p) _ x y hx hy e cx cy
    omega
theorem RoomsOk.uniq (h : RoomsOk m hs) : ∀ x, x ∈ allR 0 m → ∀ y, y ∈ allR 0 m → x.1 = y.1 → x.2 = y.2 := by
  intro x hx y hy e
  obtain ⟨p, hp, e1, c1⟩ := rm_self (h.rmFree (k := x.1) (o := x.2) hx)
  obtain ⟨p', hp', e2, c2⟩ := rm_self (h.rmFree (k := y.1) (o := y.2) hy)
  obtain rfl : p = p' := by omega
  rw [h.one p hp (List.mem_append_left _ hx) (List.mem_append_left _ hy) c1 c2]
theorem RoomsOk.uniqH (h : RoomsOk m hs) : ∀ x, x ∈ hs → ∀ y, y ∈ hs → x.1 = y.1 → x.2 = y.2 := by
  intro x hx y hy e
  obtain ⟨p, hp, e1, c1⟩ := rm_self (h.rmHeld (k := x.1) (o := x.2) hx)
  obtain ⟨p', hp', e2, c2⟩ := rm_self (h.rmHeld (k := y.1) (o := y.2) hy)
  obtain rfl : p = p' := by omega
  rw [h.one p hp (List.mem_append_right _ hx) (List.mem_append_right _ hy) c1 c2]
theorem none32_l : none32.length = 32 := none32_len
theorem RoomsOk.all (h : RoomsOk m hs) : AllRows (freeG m) m := by
  refine ⟨by rw [setAll_len]; exact none32_l, h.len, fun o ho => ?_⟩
  have hom : o < m.length := by rw [h.len]; exact ho
  refine ⟨adj_rise (fun x => x) 0 _ (fun i hi => (h.rows o hom i hi).2.1), fun k => ?_⟩
  have sa := setAll_at (allR 0 m) none32 k (fun x hx => by
    have := h.rmFree (k := x.1) (o := x.2) hx
    rw [none32_l]
    exact ⟨this.2.2.1, by have := this.2.2.2.1; omega⟩) h.uniq
  constructor
  · intro hk
    exact sa.1 _ ((mem_allR m 0 k o).2 ⟨o, hom, by rw [Nat.zero_add], hk⟩)
  · intro hk
    by_cases hl : ∃ o', (k, o') ∈ allR 0 m
    · obtain ⟨o', ho'⟩ := hl
      have e := sa.1 _ ho'
      rw [show setAll none32 (allR 0 m) = freeG m from rfl, hk] at e
      obtain ⟨i, h1, h2, h3⟩ := (mem_allR m 0 k o').1 ho'
      obtain rfl : i = o := by
        simp only [Option.some.injEq] at e
        omega
      exact h3
    · have e := sa.2 (fun o' ho' => hl ⟨o', ho'⟩)
      rw [show setAll none32 (allR 0 m) = freeG m from rfl, hk, lkM_none] at e
      cases e
theorem RoomsOk.heldIs (h : RoomsOk m hs) : IsHeld (heldM hs) hs := by
  refine ⟨by rw [setAll_len]; exact none32_l, adj_rise (fun x : Hl => x.1) hl0 _ (fun i hi => (h.held i hi).2), fun k o => ?_⟩
  have sa := setAll_at hs none32 k (fun x hx => by
    have := h.rmHeld (k := x.1) (o := x.2) hx
    rw [none32_l]
    exact ⟨this.2.2.1, by have := this.2.2.2.1; omega⟩) h.uniqH
  constructor
  · exact sa.1 o
  · intro hk
    by_cases hl : ∃ o', (k, o') ∈ hs
    · obtain ⟨o', ho'⟩ := hl
      have e := sa.1 _ ho'
      rw [show setAll none32 hs = heldM hs from rfl, hk] at e
      simp only [Option.some.injEq] at e
      rw [e]
      exact ho'
    · have e := sa.2 (fun o' ho' => hl ⟨o', ho'⟩)
      rw [show setAll none32 hs = heldM hs from rfl, hk, lkM_none] at e
      cases e
theorem RoomsOk.freeMem (h : RoomsOk m hs) {k : Int} {o : Int} (hk : lkM (freeG m) k = some o) : (k, o) ∈ allR 0 m := by
  have hr := h.all
  by_cases hl : ∃ o', (k, o') ∈ allR 0 m
  · obtain ⟨o', ho'⟩ := hl
    obtain ⟨i, h1, h2, h3⟩ := (mem_allR m 0 k o').1 ho'
    have := ((hr.row i (by rw [← h.len]; exact h1)).mem k).1 h3
    rw [hk] at this
    simp only [Option.some.injEq] at this
    rw [this, show ((i : Nat) : Int) = o' from by rw [h2, Nat.zero_add]]
    exact ho'
  · have sa := setAll_at (allR 0 m) none32 k (fun x hx => by
      have := h.rmFree (k := x.1) (o := x.2) hx
      rw [none32_l]
      exact ⟨this.2.2.1, by have := this.2.2.2.1; omega⟩) h.uniq
    have e := sa.2 (fun o' ho' => hl ⟨o', ho'⟩)
    rw [show setAll none32 (allR 0 m) = freeG m from rfl, hk, lkM_none] at e
    cases e
/-- Nothing free begins inside a free room. -/
theorem RoomsOk.inside (h : RoomsOk m hs) {a o : Nat} (ha : lkM (freeG m) (a : Int) = some (o : Int)) (q : Nat) (h1 : a < q) (h2 : q < a + 2 ^ o) : (freeG m).getD q none = none := by
  rw [← lkM_nat]
  cases hq : lkM (freeG m) (q : Int) with
  | none => rfl
  | some o' =>
    exfalso
    have m1 := h.freeMem ha
    have m2 := h.freeMem hq
    have r2 := h.rmFree m2
    obtain ⟨p, hp, e1, c1⟩ := rm_self r2
    obtain rfl : p = q := by omega
    have c2 : cvr p ((a : Int), (o : Int)) = true := decide_eq_true ⟨by simp only; omega, by simp only [Int.toNat_natCast]; unfold pw; omega⟩
    have := h.one p hp (List.mem_append_left _ m1) (List.mem_append_left _ m2) c2 c1
    simp only [Prod.mk.injEq] at this
    omega
/-- Nothing held begins where a free room does. -/
theorem RoomsOk.apart (h : RoomsOk m hs) {a o : Nat} (ha : lkM (freeG m) (a : Int) = some (o : Int)) (o' : Int) : ((a : Int), o') ∉ hs := by
  intro hh
  have m1 := h.freeMem ha
  obtain ⟨p, hp, e1, c1⟩ := rm_self (h.rmFree m1)
  obtain ⟨p', hp', e2, c2⟩ := rm_self (h.rmHeld hh)
  obtain rfl : p = p' := by omega
  have hc := h.cov p hp
  have n1 := List.countP_pos_iff.2 ⟨_, m1, c1⟩
  have n2 := List.countP_pos_iff.2 ⟨_, hh, c2⟩
  rw [List.countP_append] at hc
  omega
end
end Go.Proofs.Ytjffjoednmlkiaa
