/-
  What a stripe's sectors tell: which are lost, their Epochs, the right one, those others. Mathematics; no call is walked here.
-/
import Derived.Test.YtbgadbokejaomaaGreatDoorReadStripeB7
namespace Go.Proofs.YtbgadbokejaomaaGreatDoor
open Go.RowKit
set_option linter.unusedVariables false

/-- What the sector a tells of a piece: its Epoch and its body; none where it is lost. -/
def sk (P H : List ByteArray) (B : List Bool) (least : Int) (a : Nat) : Option (Int × ByteArray) :=
  if B.getD a false = true then none
  else if (ckR (rsT P H a) 2 a least).ok = true ∧ (ckR (rsT P H a) 2 a least).B.size = 16 then some ((ckR (rsT P H a) 2 a least).E, (ckR (rsT P H a) 2 a least).B) else none
def epo (x : Option (Int × ByteArray)) : Int := match x with | none => -1 | some y => y.1
def bdo (x : Option (Int × ByteArray)) : List Nat := match x with | none => List.replicate 16 0 | some y => bs y.2
/-- A piece that was found: its Epoch may stand in a frame, its body is 16 bytes. -/
def okP (x : Option (Int × ByteArray)) : Prop := ∀ y, x = some y → (0 ≤ y.1 ∧ y.1 ≤ 60000) ∧ y.2.size = 16
theorem rd_good {s : ByteArray} (h : (rdR s).ok = true) : goodF (rdR s).K (rdR s).A (rdR s).E (rdR s).B.size := by
  unfold rdR at h ⊢
  split at h
  · rename_i h1
    rw [if_pos h1]
    split at h
    · rename_i h2
      rw [if_pos h2]
      split at h
      · rename_i h3
        rw [if_pos h3]
        have hg := h3.2.1
        refine ⟨hg.1, hg.2.1, ?_⟩
        show (ofN (bodyOf (bs s))).size ≤ 16
        rw [ofN_size]
        unfold bodyOf
        rw [List.length_take]
        have := h3.1
        omega
      · simp [frNo] at h
    · simp [frNo] at h
  · simp [frNo] at h
theorem ck_rd {s : ByteArray} {k a l : Int} (h : (ckR s k a l).ok = true) : ckR s k a l = rdR s ∧ (rdR s).ok = true := by
  unfold ckR at h ⊢
  split at h
  · rename_i h0
    rw [if_pos h0]
    split at h
    · rename_i h1
      rw [if_pos h1]
      split at h
      · rename_i h2
        rw [if_pos h2]
        split at h
        · rename_i h3
          rw [if_pos h3]
          exact ⟨rfl, h0⟩
        · simp [frNo] at h
      · simp [frNo] at h
    · simp [frNo] at h
  · simp [frNo] at h
theorem ck_good {s : ByteArray} {k a l : Int} (h : (ckR s k a l).ok = true) : goodF (ckR s k a l).K (ckR s k a l).A (ckR s k a l).E (ckR s k a l).B.size := by
  obtain ⟨e, h2⟩ := ck_rd h
  rw [e]
  exact rd_good h2
theorem ckR_small (s : ByteArray) (k a l : Int) : (ckR s k a l).B.size ≤ 16 := by
  cases h : (ckR s k a l).ok with
  | true => exact (ck_good h).2.2
  | false =>
    have : (ckR s k a l).B = ⟨#[]⟩ := by
      unfold ckR at h ⊢
      split
      · rename_i h0
        split
        · split
          · split
            · rename_i h1 h2 h3
              rw [if_pos h0, if_pos h1, if_pos h2, if_pos h3, h0] at h
              simp at h
            · rfl
          · rfl
        · rfl
      · rfl
    rw [this]
    exact Nat.zero_le _
theorem sk_ok (P H : List ByteArray) (B : List Bool) (least : Int) (a : Nat) : okP (sk P H B least a) := by
  intro y hy
  unfold sk at hy
  split at hy
  · simp at hy
  · split at hy
    · rename_i h
      simp only [Option.some.injEq] at hy
      subst hy
      exact ⟨(ck_good h.1).2.1, h.2⟩
    · simp at hy
theorem bdo_length {x : Option (Int × ByteArray)} (h : okP x) : (bdo x).length = 16 := by
  cases x with
  | none => simp [bdo]
  | some y => simp only [bdo, bs_length]; exact (h y rfl).2
theorem bdo_small (x : Option (Int × ByteArray)) : ∀ b ∈ bdo x, b < 256 := by
  cases x with
  | none => intro b hb; simp only [bdo, List.mem_replicate] at hb; omega
  | some y => exact bs_lt y.2
/-- How many of the first k have this Epoch. -/
def cntE (es : List Int) (e : Int) : Nat → Nat
  | 0 => 0
  | k + 1 => cntE es e k + (if es.getD k 0 = e then 1 else 0)
theorem cntE_le (es : List Int) (e : Int) : ∀ k, cntE es e k ≤ k
  | 0 => Nat.le_refl _
  | k + 1 => by
    have := cntE_le es e k
    simp only [cntE]
    split <;> omega
/-- The greatest of the first k Epochs that three have at least, -1 for none. -/
def rtE (es : List Int) : Nat → Int
  | 0 => -1
  | k + 1 => if 3 ≤ cntE es (es.getD k 0) es.length then max (rtE es k) (es.getD k 0) else rtE es k
theorem rtE_ge (es : List Int) : ∀ k, -1 ≤ rtE es k
  | 0 => Int.le_refl _
  | k + 1 => by
    have := rtE_ge es k
    simp only [rtE]
    split <;> omega
/-- The right Epoch is one that three have. -/
theorem rtE_has (es : List Int) : ∀ k, 0 ≤ rtE es k → 3 ≤ cntE es (rtE es k) es.length
  | 0, h => by simp [rtE] at h
  | k + 1, h => by
    simp only [rtE] at h ⊢
    split
    · rename_i h3
      rw [if_pos h3] at h
      by_cases hm : rtE es k ≤ es.getD k 0
      · rw [Int.max_eq_right hm]
        exact h3
      · rw [Int.max_eq_left (by omega)] at h ⊢
        exact rtE_has es k h
    · rename_i h3
      rw [if_neg h3] at h
      exact rtE_has es k h
/-- The numbers of the first k that a test picks. -/
def pkE (f : Int → Bool) (es : List Int) : Nat → List Int
  | 0 => []
  | k + 1 => if f (es.getD k 0) = true then pkE f es k ++ [(k : Int)] else pkE f es k
theorem pkE_le (f : Int → Bool) (es : List Int) : ∀ k, (pkE f es k).length ≤ k
  | 0 => Nat.le_refl _
  | k + 1 => by
    have := pkE_le f es k
    simp only [pkE]
    split
    · simp; omega
    · omega
theorem pkE_not (f : Int → Bool) (es : List Int) : ∀ k, (pkE f es k).length + (pkE (fun e => !f e) es k).length = k
  | 0 => rfl
  | k + 1 => by
    have := pkE_not f es k
    simp only [pkE]
    by_cases h : f (es.getD k 0) = true
    · rw [if_pos h, if_neg (by rw [h]; decide), List.length_append]
      simp only [List.length_cons, List.length_nil]
      omega
    · have h' : f (es.getD k 0) = false := by
        cases hh : f (es.getD k 0) with
        | true => exact absurd hh h
        | false => rfl
      rw [if_neg h, if_pos (by rw [h']; rfl), List.length_append]
      simp only [List.length_cons, List.length_nil]
      omega
theorem pkE_cnt (es : List Int) (r : Int) (f : Int → Bool) (hf : ∀ e, f e = decide (e = r)) : ∀ k, (pkE f es k).length = cntE es r k
  | 0 => rfl
  | k + 1 => by
    have := pkE_cnt es r f hf k
    simp only [pkE, cntE, hf, decide_eq_true_eq]
    split
    · simp; omega
    · simpa using this
theorem pkE_mem (f : Int → Bool) (es : List Int) : ∀ k x, x ∈ pkE f es k → 0 ≤ x ∧ x < (k : Int)
  | 0, x, h => by simp [pkE] at h
  | k + 1, x, h => by
    simp only [pkE] at h
    split at h
    · rcases List.mem_append.1 h with h | h
      · have := pkE_mem f es k x h
        omega
      · simp at h
        omega
    · have := pkE_mem f es k x h
      omega
/-- A sector is one of the right Epoch's. -/
def isE (r e : Int) : Bool := decide (e = r ∧ 0 ≤ e)
/-- Those others. -/
def othE (es : List Int) (r : Int) (k : Nat) : List Int := pkE (fun e => !isE r e) es k
theorem othE_few {es : List Int} (h : 0 ≤ rtE es es.length) : (othE es (rtE es es.length) es.length).length ≤ es.length - 3 := by
  have h1 := rtE_has es es.length h
  have h2 := pkE_not (isE (rtE es es.length)) es es.length
  have h3 := pkE_cnt es (rtE es es.length) (isE (rtE es es.length)) (fun e => by
    unfold isE
    refine decide_eq_decide.2 ⟨fun h => h.1, fun h' => ⟨h', by omega⟩⟩) es.length
  unfold othE
  omega
theorem othE_all {es : List Int} {r : Int} (h : r < 0) : ∀ k, (othE es r k).length = k := by
  intro k
  have h2 := pkE_not (isE r) es k
  have h3 : (pkE (isE r) es k).length = 0 := by
    clear h2
    induction k with
    | zero => rfl
    | succ k ih =>
      have hf : isE r (es.getD k 0) = false := decide_eq_false (fun h' => by omega)
      simp only [pkE, hf]
      simpa using ih
  unfold othE
  omega
end Go.Proofs.YtbgadbokejaomaaGreatDoor
