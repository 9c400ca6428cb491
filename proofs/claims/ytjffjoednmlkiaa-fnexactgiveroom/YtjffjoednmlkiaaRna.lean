/-
  The first free room that is great enough. No condition.
-/
import Derived.Test.YtjffjoednmlkiaaRmy
namespace Go.Proofs.Ytjffjoednmlkiaa
open Go.RowKit Go.Maps Go.MapKept Go.ChangeMaps
set_option linter.unusedVariables false

theorem AllRows.short {F : Om} {m : List (List Int)} (h : AllRows F m) (o : Nat) (ho : o < 6) : (m.getD o []).length ≤ 32 := by
  rw [(h.row o ho).eq (rowK_is F o)]
  have h1 := rowK_le F o (keysG F)
  have h2 := keysG_len F
  rw [h.len] at h2
  omega
theorem AllRows.in32 {F : Om} {m : List (List Int)} (h : AllRows F m) (o : Nat) (ho : o < 6) (k : Int) (hk : k ∈ m.getD o []) : 0 ≤ k ∧ k < 32 := by
  have := lkM_some (((h.row o ho).mem k).1 hk)
  rw [h.len] at this
  omega
theorem AllRows.tot {F : Om} {m : List (List Int)} (h : AllRows F m) : m.length + tot m ≤ 1048576 := by
  have hl := h.six
  obtain ⟨a, b, c, d, e, f, rfl⟩ : ∃ a b c d e f, m = [a, b, c, d, e, f] := by
    match m, hl with
    | [a, b, c, d, e, f], _ => exact ⟨a, b, c, d, e, f, rfl⟩
  have s0 := h.short 0 (by omega)
  have s1 := h.short 1 (by omega)
  have s2 := h.short 2 (by omega)
  have s3 := h.short 3 (by omega)
  have s4 := h.short 4 (by omega)
  have s5 := h.short 5 (by omega)
  simp only [Go.Proofs.Ytjffjoednmlkiaa.tot, List.map_cons, List.map_nil, List.sum_cons, List.sum_nil, List.length_cons, List.length_nil, List.getD_cons_zero, List.getD_cons_succ] at *
  omega
theorem IsHeld.short {H : Om} {hs : List Hl} (h : IsHeld H hs) : hs.length ≤ 32 := by
  rw [← h.is, heldK_len]
  have := keysG_len H
  rw [h.len] at this
  exact this
theorem RoomsOk.inR {m : List (List Int)} {hs : List Hl} (h : RoomsOk m hs) : InR m hs := by
  refine ⟨by rw [h.len]; omega, fun o ho => ?_, fun i hi => ?_, h.heldIs.short⟩
  · have ho6 : o < 6 := by rw [← h.len]; exact ho
    exact ⟨h.all.short o ho6, fun i hi => h.all.in32 o ho6 _ (getD_memR _ i 0 hi)⟩
  · have := (h.held i hi).1
    obtain ⟨a, b, c, d, _⟩ := this
    exact ⟨⟨c, d⟩, a, b⟩
theorem fsF_inv (G : Om) (want : Int) (hw : want ≤ 5) (ho : ∀ k ∈ keysG G, (lkM G k).getD 0 < 6) : ∀ n, n ≤ (keysG G).length →
    (∀ k ∈ (keysG G).take n, want ≤ (lkM G k).getD 0 → (fsF G want ((keysG G).take n)).2 ≤ (lkM G k).getD 0) ∧
    ((fsF G want ((keysG G).take n)).2 = 6 ∨ (want ≤ (fsF G want ((keysG G).take n)).2 ∧ (fsF G want ((keysG G).take n)).2 < 6 ∧ (fsF G want ((keysG G).take n)).1 ∈ (keysG G).take n ∧ (lkM G (fsF G want ((keysG G).take n)).1).getD 0 = (fsF G want ((keysG G).take n)).2 ∧ ∀ k ∈ (keysG G).take n, (lkM G k).getD 0 = (fsF G want ((keysG G).take n)).2 → (fsF G want ((keysG G).take n)).1 ≤ k))
  | 0, _ => ⟨fun k h => by simp at h, .inl rfl⟩
  | n + 1, hn => by
      obtain ⟨i1, i2⟩ := fsF_inv G want hw ho n (by omega)
      have hlt : n < (keysG G).length := by omega
      rw [fsF_succ G want (keysG G) n hlt, take_succ_getD (keysG G) n 0 hlt]
      have hmem : (keysG G).getD n 0 ∈ keysG G := getD_memR _ n 0 hlt
      have hgt : ∀ k ∈ (keysG G).take n, k < (keysG G).getD n 0 := by
        have hp : ((keysG G).take (n + 1)).Pairwise (· < ·) := (selF_rise _ _).sublist (List.take_sublist _ _)
        rw [take_succ_getD (keysG G) n 0 hlt] at hp
        intro k hk
        exact (List.pairwise_append.1 hp).2.2 k hk _ (by simp)
      obtain ⟨x, hx⟩ : ∃ x, x = (keysG G).getD n 0 := ⟨_, rfl⟩
      rw [← hx] at hgt hmem ⊢
      obtain ⟨s, hs⟩ : ∃ s, s = fsF G want ((keysG G).take n) := ⟨_, rfl⟩
      rw [← hs] at i1 i2 ⊢
      have hox := ho x hmem
      unfold fsS
      by_cases hc : want ≤ (lkM G x).getD 0 ∧ (lkM G x).getD 0 < s.2
      · rw [if_pos hc]
        refine ⟨fun k hk hwk => ?_, .inr ⟨hc.1, hox, by simp, rfl, fun k hk he => ?_⟩⟩
        · rcases List.mem_append.1 hk with hk | hk
          · have := i1 k hk hwk
            simp only; omega
          · simp only [List.mem_singleton] at hk
            subst hk; exact Int.le_refl _
        · simp only at he ⊢
          rcases List.mem_append.1 hk with hk | hk
          · have := i1 k hk (by omega)
            omega
          · simp only [List.mem_singleton] at hk
            omega
      · rw [if_neg hc]
        refine ⟨fun k hk hwk => ?_, ?_⟩
        · rcases List.mem_append.1 hk with hk | hk
          · exact i1 k hk hwk
          · simp only [List.mem_singleton] at hk
            subst hk
            omega
        · rcases i2 with i2 | ⟨a, b, c, d, e⟩
          · exact .inl i2
          · refine .inr ⟨a, b, List.mem_append_left _ c, d, fun k hk he => ?_⟩
            rcases List.mem_append.1 hk with hk | hk
            · exact e k hk he
            · simp only [List.mem_singleton] at hk
              subst hk
              have := hgt _ c
              omega
theorem AllRows.ord {G : Om} {m : List (List Int)} (h : AllRows G m) (hv : ∀ p x, G.getD p none = some x → 0 ≤ x ∧ x ≤ 5) (k : Int) (hk : k ∈ keysG G) : ∃ o : Nat, o < 6 ∧ lkM G k = some (o : Int) := by
  obtain ⟨x, hx⟩ := Option.isSome_iff_exists.1 ((keysG_mem G k).1 hk)
  have := hv _ x (lkM_some hx).2.2
  exact ⟨x.toNat, by omega, by rw [hx]; congr 1; omega⟩
/-- The first of all is the head of the first row that is not empty. -/
theorem AllRows.first {G : Om} {m : List (List Int)} (h : AllRows G m) (hv : ∀ p x, G.getD p none = some x → 0 ≤ x ∧ x ≤ 5) (want : Nat) (hw : want ≤ 5) :
    ((fsF G (want : Int) (keysG G)).2 = 6 ∧ ∀ o, want ≤ o → o < 6 → m.getD o [] = []) ∨
    ∃ (o a : Nat) (r : List Int), fsF G (want : Int) (keysG G) = ((a : Int), (o : Int)) ∧ want ≤ o ∧ o < 6 ∧ (∀ o', want ≤ o' → o' < o → m.getD o' [] = []) ∧ m.getD o [] = (a : Int) :: r := by
  have inv := fsF_inv G (want : Int) (by omega) (fun k hk => by
    obtain ⟨o, ho, he⟩ := h.ord hv k hk
    rw [he]; simp only [Option.getD_some]; omega) (keysG G).length (Nat.le_refl _)
  rw [List.take_length] at inv
  obtain ⟨s, hs⟩ : ∃ s, s = fsF G (want : Int) (keysG G) := ⟨_, rfl⟩
  rw [← hs] at inv ⊢
  obtain ⟨i1, i2⟩ := inv
  have emp : ∀ o : Nat, want ≤ o → o < 6 → (o : Int) < s.2 → m.getD o [] = [] := by
    intro o h1 h2 h3
    cases hr : m.getD o [] with
    | nil => rfl
    | cons k r =>
      exfalso
      have hk := ((h.row o h2).mem k).1 (by rw [hr]; simp)
      have := i1 k ((keysG_mem G k).2 (by rw [hk]; rfl)) (by rw [hk]; simp only [Option.getD_some]; omega)
      rw [hk] at this
      simp only [Option.getD_some] at this
      omega
  rcases i2 with e6 | ⟨a, b, c, d, e⟩
  · exact .inl ⟨e6, fun o h1 h2 => emp o h1 h2 (by omega)⟩
  · refine .inr ?_
    obtain ⟨o, ho, he⟩ := h.ord hv s.1 c
    have so : s.2 = (o : Int) := by rw [← d, he]; rfl
    obtain ⟨k0, _⟩ := lkM_some he
    have hin : s.1 ∈ m.getD o [] := ((h.row o ho).mem s.1).2 he
    cases hr : m.getD o [] with
    | nil => rw [hr] at hin; simp at hin
    | cons k r =>
      have hk := ((h.row o ho).mem k).1 (by rw [hr]; simp)
      have h1 := e k ((keysG_mem G k).2 (by rw [hk]; rfl)) (by rw [hk, so]; rfl)
      have h2 : k ≤ s.1 := by
        have hp := (h.row o ho).rise
        rw [hr] at hp hin
        rcases List.mem_cons.1 hin with e1 | m1
        · omega
        · have := (List.pairwise_cons.1 hp).1 _ m1
          omega
      have hk1 : k = s.1 := by omega
      refine ⟨o, s.1.toNat, r, ?_, by omega, ho, fun o' h3 h4 => emp o' h3 (by omega) (by omega), ?_⟩
      · have : ((s.1.toNat : Nat) : Int) = s.1 := by omega
        rw [this, ← so]
      · have : ((s.1.toNat : Nat) : Int) = s.1 := by omega
        rw [this, ← hk1]; exact hr
theorem RoomsOk.vals {m : List (List Int)} {hs : List Hl} (h : RoomsOk m hs) : ∀ p x, (freeG m).getD p none = some x → 0 ≤ x ∧ x ≤ 5 := by
  intro p x hx
  have := h.rmFree (h.freeMem (k := (p : Int)) (o := x) (by rw [lkM_nat]; exact hx))
  exact ⟨this.1, this.2.1⟩
end Go.Proofs.Ytjffjoednmlkiaa
