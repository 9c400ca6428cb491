/-
  Fingers of windows and cuts by them: mathematics alone. What a finger is that is rolled on, and the cuts that are come to byte by byte. No condition but that bytes are below 256 where it is said.
-/
import Derived.WalkKit
namespace Go.Proofs.Ythmijjcddjlebaa

/-- A finger rolled on. -/
def rf (f o i : Nat) : Nat := (f * 257 + i + o * 7053) % 8191
/-- The finger of some bytes. -/
def fg (l : List Nat) : Nat := l.foldl (fun n b => (n * 257 + b) % 8191) 0
theorem fg_nil : fg [] = 0 := rfl
theorem fg_snoc (l : List Nat) (b : Nat) : fg (l ++ [b]) = (fg l * 257 + b) % 8191 := by unfold fg; rw [List.foldl_append]; rfl
theorem fg_lt (l : List Nat) : fg l < 8191 := by
  rcases List.eq_nil_or_concat l with rfl | ⟨l', b, rfl⟩
  · decide
  · rw [List.concat_eq_append, fg_snoc]; exact Nat.mod_lt _ (by decide)
theorem rf_lt (f o i : Nat) : rf f o i < 8191 := Nat.mod_lt _ (by decide)
theorem rf_zero (f i : Nat) : rf f 0 i = (f * 257 + i) % 8191 := by unfold rf; rw [Nat.zero_mul, Nat.add_zero]
theorem rf_four (a b c d e : Nat) : rf (fg [a, b, c, d]) a e = fg [b, c, d, e] := by
  simp only [fg, List.foldl, rf]
  omega
/-- The model's way to roll on. -/
theorem rf_model (f o i : Nat) (hf : f < 8191) (ho : o < 256) : ((f + 2096896 - o * 2841) % 8191 * 257 + i) % 8191 = rf f o i := by
  unfold rf
  omega

/-- The window ahead of a place. -/
def wnd (l : List Nat) (k : Nat) : List Nat := (l.take k).drop (k - 4)
theorem wnd_zero (l : List Nat) : wnd l 0 = [] := rfl
/-- The byte that goes out at a place. -/
def outB (l : List Nat) (k : Nat) : Nat := if k < 4 then 0 else l.getD (k - 4) 0
theorem take_snoc9 (l : List Nat) (k : Nat) (h : k < l.length) : l.take (k + 1) = l.take k ++ [l.getD k 0] := by
  rw [List.take_succ_eq_append_getElem h, List.getD_eq_getElem?_getD, List.getElem?_eq_getElem h]; rfl
/-- A window rolled on is the next one. -/
theorem fg_roll (l : List Nat) (k : Nat) (h : k < l.length) : fg (wnd l (k + 1)) = rf (fg (wnd l k)) (outB l k) (l.getD k 0) := by
  by_cases h4 : k < 4
  · have e0 : k - 4 = 0 := by omega
    have e1 : k + 1 - 4 = 0 := by omega
    simp only [wnd, outB, e0, e1, if_pos h4, List.drop_zero, rf_zero]
    rw [take_snoc9 l k h, fg_snoc]
  · have e2 : k + 1 - 4 = (k - 4) + 1 := by omega
    have hl : (l.take k).length = k := by rw [List.length_take]; omega
    obtain ⟨a, b, c, d, hd⟩ : ∃ a b c d, (l.take k).drop (k - 4) = [a, b, c, d] := by
      have hlen : ((l.take k).drop (k - 4)).length = 4 := by rw [List.length_drop, hl]; omega
      match hx : (l.take k).drop (k - 4), hlen with
      | [a, b, c, d], _ => exact ⟨a, b, c, d, rfl⟩
    have ha : l.getD (k - 4) 0 = a := by
      have := congrArg (fun q => q.getD 0 0) hd
      simp only [List.getD_eq_getElem?_getD, List.getElem?_drop, List.getElem?_take] at this
      simp only [List.getD_eq_getElem?_getD]
      simpa [show k - 4 < k by omega] using this
    have hw : wnd l (k + 1) = [b, c, d, l.getD k 0] := by
      unfold wnd
      rw [take_snoc9 l k h, e2, List.drop_append_of_le_length (by omega), ← List.drop_drop, hd]
      rfl
    rw [hw]
    unfold wnd outB
    rw [hd, if_neg h4, ha, rf_four]

/-- Is there a cut at k, the last one being at a? -/
def cutAt (l : List Nat) (a k : Nat) : Bool := k == l.length || k - a == 20 || (decide (4 ≤ k - a) && fg (wnd l k) % 8 == 7)
/-- The cuts up to k. -/
def cutsN (l : List Nat) : Nat → List Nat
  | 0 => []
  | k + 1 => if cutAt l ((cutsN l k).getLastD 0) (k + 1) then cutsN l k ++ [k + 1] else cutsN l k
def lastC (l : List Nat) (k : Nat) : Nat := (cutsN l k).getLastD 0
theorem cutsN_zero (l : List Nat) : cutsN l 0 = [] := rfl
theorem cutsN_yes {l : List Nat} {k : Nat} (h : cutAt l (lastC l k) (k + 1) = true) : cutsN l (k + 1) = cutsN l k ++ [k + 1] := if_pos h
theorem cutsN_no {l : List Nat} {k : Nat} (h : cutAt l (lastC l k) (k + 1) = false) : cutsN l (k + 1) = cutsN l k := if_neg (by unfold lastC at h; rw [h]; decide)
theorem lastC_zero (l : List Nat) : lastC l 0 = 0 := rfl
theorem lastC_yes {l : List Nat} {k : Nat} (h : cutAt l (lastC l k) (k + 1) = true) : lastC l (k + 1) = k + 1 := by
  unfold lastC; rw [cutsN_yes h, List.getLastD_concat]
theorem lastC_no {l : List Nat} {k : Nat} (h : cutAt l (lastC l k) (k + 1) = false) : lastC l (k + 1) = lastC l k := by
  unfold lastC; rw [cutsN_no h]
theorem lastC_le (l : List Nat) (k : Nat) : lastC l k ≤ k := by
  induction k with
  | zero => exact Nat.le_refl _
  | succ k ih =>
    cases h : cutAt l (lastC l k) (k + 1)
    · rw [lastC_no h]; omega
    · rw [lastC_yes h]; exact Nat.le_refl _
theorem cutsN_prefix (l : List Nat) (k m : Nat) (h : k ≤ m) : cutsN l k <+: cutsN l m := by
  induction m with
  | zero => obtain rfl : k = 0 := by omega
            exact List.prefix_refl _
  | succ m ih =>
    by_cases e : k = m + 1
    · subst e; exact List.prefix_refl _
    · refine (ih (by omega)).trans ?_
      cases h : cutAt l (lastC l m) (m + 1)
      · rw [cutsN_no h]; exact List.prefix_refl _
      · rw [cutsN_yes h]; exact List.prefix_append _ _
theorem cutsN_len (l : List Nat) (k : Nat) : (cutsN l k).length ≤ k := by
  induction k with
  | zero => exact Nat.le_refl _
  | succ k ih =>
    cases h : cutAt l (lastC l k) (k + 1)
    · rw [cutsN_no h]; omega
    · rw [cutsN_yes h, List.length_append]; simp; omega
theorem cutsN_le (l : List Nat) (k : Nat) : ∀ c ∈ cutsN l k, c ≤ k := by
  induction k with
  | zero => intro c hc; simp [cutsN] at hc
  | succ k ih =>
    intro c hc
    cases h : cutAt l (lastC l k) (k + 1)
    · rw [cutsN_no h] at hc; have := ih c hc; omega
    · rw [cutsN_yes h, List.mem_append] at hc
      rcases hc with hc | hc
      · have := ih c hc; omega
      · simp at hc; omega
/-- All cuts; each with the one ahead of it. -/
def cuts (l : List Nat) : List Nat := cutsN l l.length
def pairsN (l : List Nat) : Nat → List (Nat × Nat)
  | 0 => []
  | k + 1 => if cutAt l (lastC l k) (k + 1) then pairsN l k ++ [(lastC l k, k + 1)] else pairsN l k
theorem pairsN_yes {l : List Nat} {k : Nat} (h : cutAt l (lastC l k) (k + 1) = true) : pairsN l (k + 1) = pairsN l k ++ [(lastC l k, k + 1)] := if_pos h
theorem pairsN_no {l : List Nat} {k : Nat} (h : cutAt l (lastC l k) (k + 1) = false) : pairsN l (k + 1) = pairsN l k := if_neg (by rw [h]; decide)
theorem pairsN_cuts (l : List Nat) (k : Nat) : (pairsN l k).map Prod.snd = cutsN l k := by
  induction k with
  | zero => rfl
  | succ k ih =>
    cases h : cutAt l (lastC l k) (k + 1)
    · rw [cutsN_no h, pairsN_no h, ih]
    · rw [cutsN_yes h, pairsN_yes h, List.map_append, ih]; rfl
theorem pairsN_prefix (l : List Nat) (k m : Nat) (h : k ≤ m) : pairsN l k <+: pairsN l m := by
  induction m with
  | zero => obtain rfl : k = 0 := by omega
            exact List.prefix_refl _
  | succ m ih =>
    by_cases e : k = m + 1
    · subst e; exact List.prefix_refl _
    · refine (ih (by omega)).trans ?_
      cases h : cutAt l (lastC l m) (m + 1)
      · rw [pairsN_no h]; exact List.prefix_refl _
      · rw [pairsN_yes h]; exact List.prefix_append _ _
/-- The cut that comes at k is the one whose number is how many came ahead. -/
theorem pairsN_at {l : List Nat} {k : Nat} (hk : k < l.length) (h : cutAt l (lastC l k) (k + 1) = true) : (pairsN l l.length)[(pairsN l k).length]? = some (lastC l k, k + 1) := by
  have hp := pairsN_prefix l (k + 1) l.length (by omega)
  rw [pairsN_yes h] at hp
  obtain ⟨t, ht⟩ := hp
  rw [← ht, List.append_assoc, List.getElem?_append_right (Nat.le_refl _), Nat.sub_self]
  rfl
theorem pairsN_mem {l : List Nat} (k : Nat) : ∀ p ∈ pairsN l k, p.1 ≤ p.2 ∧ p.2 ≤ k := by
  induction k with
  | zero => intro p hp; simp [pairsN] at hp
  | succ k ih =>
    intro p hp
    cases h : cutAt l (lastC l k) (k + 1)
    · rw [pairsN_no h] at hp; have := ih p hp; omega
    · rw [pairsN_yes h, List.mem_append] at hp
      rcases hp with hp | hp
      · have := ih p hp; omega
      · simp at hp; subst hp; have := lastC_le l k; simp; omega
end Go.Proofs.Ythmijjcddjlebaa
