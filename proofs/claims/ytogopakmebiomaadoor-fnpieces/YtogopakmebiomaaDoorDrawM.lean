/-
  Unlike numbers drawn, and matrices: the model's draws, call by call. Each contract says what it asks.
-/
import Derived.Test.YtogopakmebiomaaDoorDrawA
namespace Go.Proofs.YtogopakmebiomaaDoor
open Go.RowKit

theorem pigeon : ∀ (m : Nat) (L : List Int) (f : Nat → Int), L.length ≤ m → (∀ i j, i ≤ m → j ≤ m → i ≠ j → f i ≠ f j) → ∃ d, d ≤ m ∧ L.contains (f d) = false := by
  intro m
  induction m with
  | zero =>
    intro L f hl _
    have : L = [] := List.eq_nil_of_length_eq_zero (by omega)
    subst this
    exact ⟨0, Nat.le_refl _, rfl⟩
  | succ m ih =>
    intro L f hl hi
    cases hc : L.contains (f (m + 1)) with
    | false => exact ⟨m + 1, Nat.le_refl _, hc⟩
    | true =>
      have hm : f (m + 1) ∈ L := by simpa using hc
      obtain ⟨d, hd, h⟩ := ih (L.erase (f (m + 1))) f (by rw [List.length_erase_of_mem hm]; omega) (fun i j h1 h2 => hi i j (by omega) (by omega))
      refine ⟨d, by omega, ?_⟩
      have hne : f d ≠ f (m + 1) := hi d (m + 1) (by omega) (Nat.le_refl _) (by omega)
      cases hc2 : L.contains (f d) with
      | false => rfl
      | true =>
        have h3 : f d ∈ L := by simpa using hc2
        have h4 : f d ∈ L.erase (f (m + 1)) := (List.mem_erase_of_ne hne).2 h3
        rw [List.contains_eq_mem, decide_eq_false_iff_not] at h
        exact absurd h4 h
/-- The first place from j on that holds. -/
def fstAt (p : Nat → Bool) : Nat → Nat → Nat
  | 0, j => j
  | f + 1, j => if p j = true then j else fstAt p f (j + 1)
theorem fstAt_le {p : Nat → Bool} : ∀ f j d, j ≤ d → p d = true → fstAt p f j ≤ d := by
  intro f
  induction f with
  | zero => intro j d h _; exact h
  | succ f ih =>
    intro j d h hp
    rw [fstAt]
    split
    · exact h
    · rename_i hj
      exact ih (j + 1) d (by rcases Nat.lt_or_eq_of_le h with h | h; omega; rw [h] at hj; exact absurd hp hj) hp
theorem fstAt_true {p : Nat → Bool} : ∀ f j d, j ≤ d → d < j + f → p d = true → p (fstAt p f j) = true := by
  intro f
  induction f with
  | zero => intro j d h1 h2; omega
  | succ f ih =>
    intro j d h1 h2 hp
    rw [fstAt]
    split
    · rename_i h; exact h
    · rename_i hj
      exact ih (j + 1) d (by rcases Nat.lt_or_eq_of_le h1 with h | h; omega; rw [h] at hj; exact absurd hp hj) (by omega) hp
/-- How many numbers from x on are in the list, one behind the other, round 256. -/
def ahead (xs : List Int) (x : Nat) : Nat := fstAt (fun d => !xs.contains ((((x + d) % 256 : Nat)) : Int)) 300 0
theorem ahead_free (xs : List Int) (x : Nat) (hl : xs.length ≤ 16) : ∃ d, d ≤ 16 ∧ (!xs.contains ((((x + d) % 256 : Nat)) : Int)) = true := by
  obtain ⟨d, hd, h⟩ := pigeon 16 xs (fun d => (((x + d) % 256 : Nat) : Int)) hl (fun i j hi hj hij => by omega)
  exact ⟨d, hd, by rw [h]; rfl⟩
theorem ahead_le (xs : List Int) (x : Nat) (hl : xs.length ≤ 16) : ahead xs x ≤ 16 := by
  obtain ⟨d, hd, h⟩ := ahead_free xs x hl
  have := fstAt_le (p := fun d => !xs.contains ((((x + d) % 256 : Nat)) : Int)) 300 0 d (Nat.zero_le _) h
  unfold ahead
  omega
theorem ahead_step {xs : List Int} {x : Nat} (hl : xs.length ≤ 16) (hx : x < 256) (h : xs.contains ((x : Nat) : Int) = true) : ahead xs ((x + 1) % 256) < ahead xs x := by
  obtain ⟨d, hd, hf⟩ := ahead_free xs x hl
  have ht := fstAt_true (p := fun d => !xs.contains ((((x + d) % 256 : Nat)) : Int)) 300 0 d (Nat.zero_le _) (by omega) hf
  have e : fstAt (fun d => !xs.contains ((((x + d) % 256 : Nat)) : Int)) 300 0 = ahead xs x := rfl
  rw [e] at ht
  have h0 : ahead xs x ≠ 0 := by
    intro h0
    rw [h0] at ht
    have : (x + 0) % 256 = x := by omega
    simp only [this, h, Bool.not_true] at ht
    cases ht
  have := fstAt_le (p := fun d => !xs.contains (((((x + 1) % 256 + d) % 256 : Nat)) : Int)) 300 0 (ahead xs x - 1) (Nat.zero_le _) (by
    have e2 : ((x + 1) % 256 + (ahead xs x - 1)) % 256 = (x + ahead xs x) % 256 := by omega
    simp only [e2]
    exact ht)
  unfold ahead at this h0 ⊢
  omega

theorem own_chg {w w' : World} {base g : Nat} {v : Value} {xs : List Int} (h : Own w base v xs) (hg : w.grownBy w' (some g)) (hb : g < base) : Own w' base v xs := own_keep h hg hb
theorem grown_chg {w w' : World} {g : Nat} (hg : w.grownBy w' (some g)) : Chg g (g + 1) w w' := Chg.ofGrown hg (fun k hk => by cases hk; omega)
theorem mat_single {w : World} {B : Nat} {u : Value} {r : List Int} (h : Own w B u r) (hB : B ≤ w.heap.size) :
    MatV (w.alloc (.cells #[u] 22)) B (w.heap.size + 1) (.slice (some ⟨w.heap.size, 0, none⟩) 1 1) [u] [r] := by
  have ho : (w.alloc (.cells #[u] 22)).ownsRow B 22 1 (.slice (some ⟨w.heap.size, 0, none⟩) 1 1) 1 [u] := World.ownsRow_lit w #[u] 1 hB (by unfold maxLen; omega) (by rfl)
  have hO : Own (w.alloc (.cells #[u] 22)) B u r := h.below ((Below.refl _ _).alloc (Nat.le_refl _) _)
  refine ⟨rfl, ho, fun i hi => ?_, fun k hk => ?_, fun i k hi hk => ?_, fun i j hi hj hij => ?_⟩
  · simp at hi
    subst hi
    exact hO
  · simp [Value.ownBlock] at hk
    omega
  · simp at hi
    subst hi
    have := (World.ownsRow.lt h k hk).2
    omega
  · simp at hi hj
    omega

theorem CurS.kept {w w' : World} {g k : Nat} {cv : Value} (h : CurS w g cv k) (hb : Below w.heap.size w w') (hrb : ∀ w2, w'.grownBy w2 (some g) → RdB w2 cv) : CurS w' g cv k := by
  obtain ⟨n, s, hn, hh⟩ := h.at_
  exact ⟨⟨n, s, hn, (hb.block g (Array.getElem?_eq_some_iff.1 hh).1).trans hh⟩, hrb⟩
theorem own_cut {w : World} {lo n c h2 : Nat} {a : Option Addr} {r : List Int} (h : Own w lo (.slice a n c) r) (hh : h2 ≤ r.length) : Own w lo (.slice a h2 c) (r.take h2) := by
  have hl : (r.take h2).length = h2 := by simp; omega
  refine ⟨by simp, ?_⟩
  rcases h.2 with ⟨h1, h0⟩ | ⟨g, cap, cur, h1, hb, hg, hc, hm, hs, ht⟩
  · simp only [Value.slice.injEq] at h1
    obtain ⟨rfl, rfl, rfl⟩ := h1
    have : h2 = 0 := by omega
    subst this
    exact .inl ⟨rfl, by simp⟩
  · simp only [Value.slice.injEq] at h1
    obtain ⟨rfl, rfl, rfl⟩ := h1
    refine .inr ⟨g, c, cur, by rw [hl], hb, hg, by rw [hl]; omega, hm, hs, ?_⟩
    rw [hl]
    have := congrArg (List.take h2) ht
    rw [Nat.mul_one] at this ⊢
    rw [List.take_take, Nat.min_eq_left hh] at this
    rw [this, List.map_take]
theorem MatV.cut0 {w : World} {lo hi g n cap h2 : Nat} {vs : List Value} {m : List (List Int)} (h : MatV w lo hi (.slice (some ⟨g, 0, none⟩) n cap) vs m) (h0 : 0 < m.length) {a : Option Addr} {k c : Nat} (hv : vs.getD 0 nilRow = .slice a k c) (hh : h2 ≤ (m.getD 0 []).length) :
    MatV (w.setCell ⟨g, 0, none⟩ (.slice a h2 c)) lo hi (.slice (some ⟨g, 0, none⟩) n cap) (vs.set 0 (.slice a h2 c)) (m.set 0 ((m.getD 0 []).take h2)) ∧ w.grownBy (w.setCell ⟨g, 0, none⟩ (.slice a h2 c)) (some g) := by
  have hl : 0 < vs.length := by rw [h.len]; exact h0
  obtain rfl := h.lenEq
  have st := World.ownsRow.stored h.head 0 (.slice a h2 c)
  have hr := h.row 0 h0
  rw [hv] at hr
  have hcut := own_cut hr hh
  have hob : (Value.slice a h2 c).ownBlock = (Value.slice a k c).ownBlock := by cases a <;> rfl
  have gd : ∀ j, (vs.set 0 (.slice a h2 c)).getD j nilRow = if j = 0 then .slice a h2 c else vs.getD j nilRow := fun j => getD_set _ _ _ _ _ hl
  have ob : ∀ j, ((vs.set 0 (.slice a h2 c)).getD j nilRow).ownBlock = (vs.getD j nilRow).ownBlock := by
    intro j
    rw [gd]
    split
    · rename_i e; rw [e, hv, hob]
    · rfl
  refine ⟨⟨by rw [List.length_set, List.length_set]; exact h.len, by rw [List.length_set]; exact st.1, fun j hj => ?_, h.top, fun j b hj hb => ?_, fun i j hi hj hij => ?_⟩, st.2⟩
  · rw [List.length_set] at hj
    rw [gd, getD_set _ _ _ _ _ h0]
    split
    · exact World.ownsRow.kept hcut st.2 (heads_apart' h.head hcut)
    · exact World.ownsRow.kept (h.row j hj) st.2 (heads_apart' h.head (h.row j hj))
  · rw [List.length_set] at hj
    rw [ob] at hb
    exact h.tops j b hj hb
  · rw [List.length_set] at hi hj
    rw [ob, ob]
    exact h.apart i j hi hj hij
end Go.Proofs.YtogopakmebiomaaDoor
