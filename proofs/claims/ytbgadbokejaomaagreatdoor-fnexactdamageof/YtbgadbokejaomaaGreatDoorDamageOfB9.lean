/-
  Behind a crash: the program's AfterCrash and its model's, call by call. Each contract says what it asks. Bytes that rot: the model's function on a text, call by call. The contract says what it asks. A sector held, a sector healed: the program's functions on a disk of the call's own, call by call. Each contract says what it asks. A step done on a disk of the call's own, kind by kind: the program's doStep, call by call. Each contract says what it asks. Fields that a step has no use for: the program's test, call by call. The contract says what it asks. A step done on a disk of the call's own: what it leaves, and the program's doStep as a whole. Each contract says what it asks. A step of a disk: the program's StepDisk, call by call. The contract says what it asks. What lies apart stays where a call writes elsewhere: a row of the call's own beside a disk. No call is walked here. A step handed over, measured, held against another and marked: call by call. Each contract says what it asks. What a stripe's sectors tell: which are lost, their Epochs, the right one, those others. Mathematics; no call is walked here.
-/
import Derived.Test.YtbgadbokejaomaaGreatDoorDamageOfB8
namespace Go.Proofs.YtbgadbokejaomaaGreatDoor
open Go.RowKit
set_option linter.unusedVariables false

theorem Hand.store3 {W w : World} {L : List Tg} {g : Nat} {a b c : Value} {T : TypeId} (A : Hand W w L) (i : Nat) (hi : L[i]? = some (TBox g #[a, b, c] T)) (v0 v1 v2 : Value) :
    Hand W (((w.setCell ⟨g, 0, none⟩ v0).setCell ⟨g, 1, none⟩ v1).setCell ⟨g, 2, none⟩ v2) (L.set i (TBox g #[v0, v1, v2] T)) := by
  obtain ⟨lo, hi', ⟨b1, b2, b3⟩, _, _, put⟩ := A.open i hi
  exact put _ (TBox g #[v0, v1, v2] T) (TBox.st _ _ _) ⟨b1, b2, b3.store3 v0 v1 v2⟩ (Chg.store3 w g v0 v1 v2 b1 b2)
theorem Hand.wide {W w : World} {L : List Tg} {p h b : Value} {P H : List ByteArray} {B : List Bool} (A : Hand W w L) (i : Nat) (hi : L[i]? = some (TDsk p h b P H B)) : DskV w W.heap.size w.heap.size p h b P H B := by
  obtain ⟨lo, hi', d, h1, h2, _⟩ := A.open i hi
  exact DskV.wider d h1 h2
theorem Hand.two (w : World) (c1 c2 : Array Value) (T1 T2 : TypeId) : Hand w ((w.alloc (.cells c1 T1)).alloc (.cells c2 T2)) [TBox (w.heap.size + 1) c2 T2, TBox w.heap.size c1 T1] := by
  have h := ((Hand.start w).box c1 T1).box c2 T2
  simpa only [World.size_alloc] using h
end Go.Proofs.YtbgadbokejaomaaGreatDoor

namespace Go.Proofs.YtbgadbokejaomaaGreatDoor
open Go.RowKit
set_option linter.unusedVariables false

end Go.Proofs.YtbgadbokejaomaaGreatDoor

namespace Go.Proofs.YtbgadbokejaomaaGreatDoor
open Go.RowKit
set_option linter.unusedVariables false

end Go.Proofs.YtbgadbokejaomaaGreatDoor

namespace Go.Proofs.YtbgadbokejaomaaGreatDoor
open Go.RowKit
set_option linter.unusedVariables false

end Go.Proofs.YtbgadbokejaomaaGreatDoor

namespace Go.Proofs.YtbgadbokejaomaaGreatDoor
open Go.RowKit
set_option linter.unusedVariables false

end Go.Proofs.YtbgadbokejaomaaGreatDoor

namespace Go.Proofs.YtbgadbokejaomaaGreatDoor
open Go.RowKit
set_option linter.unusedVariables false

end Go.Proofs.YtbgadbokejaomaaGreatDoor

namespace Go.Proofs.YtbgadbokejaomaaGreatDoor
open Go.RowKit
set_option linter.unusedVariables false

theorem Hand.three (w : World) (c1 c2 c3 : Array Value) (T1 T2 T3 : TypeId) : Hand w (((w.alloc (.cells c1 T1)).alloc (.cells c2 T2)).alloc (.cells c3 T3)) [TBox (w.heap.size + 1 + 1) c3 T3, TBox (w.heap.size + 1) c2 T2, TBox w.heap.size c1 T1] := by
  have h := (((Hand.start w).box c1 T1).box c2 T2).box c3 T3
  simpa only [World.size_alloc] using h
end Go.Proofs.YtbgadbokejaomaaGreatDoor

namespace Go.Proofs.YtbgadbokejaomaaGreatDoor
open Go.RowKit
set_option linter.unusedVariables false

theorem own_outJ {w w' : World} {base lo hi n : Nat} {e : TypeId} {v : Value} {xs : List Value} (h : w.ownsRow base e 1 v n xs) (ho : ∀ k, v.ownBlock = some k → k < lo ∨ hi ≤ k) (hc : Chg lo hi w w') : w'.ownsRow base e 1 v n xs := by
  refine ⟨h.1, ?_⟩
  rcases h.2 with hn | ⟨g, cap, cur, rfl, hb', hg, rest⟩
  · exact .inl hn
  · exact .inr ⟨g, cap, cur, rfl, hb', by rw [hc.block g (Array.getElem?_eq_some_iff.1 hg).1 (ho g rfl)]; exact hg, rest⟩
theorem dsk_out {w w' : World} {l u : Nat} {p h b v : Value} {P H : List ByteArray} {B : List Bool} (d : DskV w l u p h b P H B) (ho : ∀ k, v.ownBlock = some k → k < l ∨ u ≤ k) (hg : w.grownBy w' v.ownBlock) : DskV w' l u p h b P H B := by
  cases e : v.ownBlock with
  | none => exact d.chg (Chg.ofGrown (lo := u) (hi := u) hg (fun j hj => by rw [e] at hj; cases hj)) (.inl (Nat.le_refl _))
  | some j =>
    have := ho j e
    exact d.chg (Chg.ofGrown (lo := j) (hi := j + 1) hg (fun i hi => by rw [e] at hi; cases hi; omega)) (by omega)
end Go.Proofs.YtbgadbokejaomaaGreatDoor

namespace Go.Proofs.YtbgadbokejaomaaGreatDoor
open Go.RowKit
set_option linter.unusedVariables false

set_option maxRecDepth 100000 in
set_option maxHeartbeats 400000 in
theorem szIntS_any (v : Value) (xs : List Int) (l : Int) (w : World) (h : Rd w v xs) (h0 : 0 ≤ l) (hl : l ≤ 1048576) :
    Calls Tryz.prog 65 #[v, .int .i64 l] w fun e w' => (∃ r : Int, e = .returned (.int .i64 r) ∧ (r < 0 ∨ (0 ≤ r ∧ r ≤ 1048576 ∧ xs.length ≤ 1048576))) ∧ w = w' := by
  obtain ⟨a, cap, rfl, h1, h2, h3⟩ := h
  have hm : xs.length ≤ maxLen := by omega
  unfold maxLen at hm
  clear h3 h2 h1
  by_cases hc : (xs.length : Int) ≤ l
  · have e : ¬ (l - (xs.length : Int) < 0) := by omega
    go_enter Tryz.func65, Tryz.ntmps65
    go_wp2
    go_ret
    exact ⟨⟨_, rfl, .inr ⟨by omega, by omega, by omega⟩⟩, rfl⟩
  · have e : l - (xs.length : Int) < 0 := by omega
    go_enter Tryz.func65, Tryz.ntmps65
    go_wp2
    go_ret
    exact ⟨⟨_, rfl, .inl (by decide)⟩, rfl⟩

theorem Hand.store4 {W w : World} {L : List Tg} {g : Nat} {a b c d : Value} {T : TypeId} (A : Hand W w L) (i : Nat) (hi : L[i]? = some (TBox g #[a, b, c, d] T)) (v0 v1 v2 v3 : Value) :
    Hand W ((((w.setCell ⟨g, 0, none⟩ v0).setCell ⟨g, 1, none⟩ v1).setCell ⟨g, 2, none⟩ v2).setCell ⟨g, 3, none⟩ v3) (L.set i (TBox g #[v0, v1, v2, v3] T)) := by
  obtain ⟨lo, hi', ⟨b1, b2, b3⟩, _, _, put⟩ := A.open i hi
  exact put _ (TBox g #[v0, v1, v2, v3] T) (TBox.st _ _ _) ⟨b1, b2, b3.store4 v0 v1 v2 v3⟩ (Chg.store4 w g v0 v1 v2 v3 b1 b2)
end Go.Proofs.YtbgadbokejaomaaGreatDoor

namespace Go.Proofs.YtbgadbokejaomaaGreatDoor
open Go.RowKit
set_option linter.unusedVariables false

/-- What the sector a tells of a piece: its Epoch and its body; none where it is lost. -/
def sk (P H : List ByteArray) (B : List Bool) (least : Int) (a : Nat) : Option (Int × ByteArray) :=
  if B.getD a false = true then none
  else if (ckR (rsT P H a) 2 a least).ok = true ∧ (ckR (rsT P H a) 2 a least).B.size = 16 then some ((ckR (rsT P H a) 2 a least).E, (ckR (rsT P H a) 2 a least).B) else none
def epo (x : Option (Int × ByteArray)) : Int := match x with | none => -1 | some y => y.1
def bdo (x : Option (Int × ByteArray)) : List Nat := match x with | none => List.replicate 16 0 | some y => bs y.2
/-- A piece that was found: its Epoch may stand in a frame, its body is 16 bytes. -/
def okP (x : Option (Int × ByteArray)) : Prop := ∀ y, x = some y → (0 ≤ y.1 ∧ y.1 ≤ 60000) ∧ y.2.size = 16
theorem rd_good {s : ByteArray} (h : (rdR s).ok = true) : goodF (rdR s).K (rdR s).A (rdR s).E (rdR s).B.size := by
  unfold rdR at h ⊢
  split at h
  · rename_i h1
    rw [if_pos h1]
    split at h
    · rename_i h2
      rw [if_pos h2]
      split at h
      · rename_i h3
        rw [if_pos h3]
        have hg := h3.2.1
        refine ⟨hg.1, hg.2.1, ?_⟩
        show (ofN (bodyOf (bs s))).size ≤ 16
        rw [ofN_size]
        unfold bodyOf
        rw [List.length_take]
        have := h3.1
        omega
      · simp [frNo] at h
    · simp [frNo] at h
  · simp [frNo] at h
theorem ck_rd {s : ByteArray} {k a l : Int} (h : (ckR s k a l).ok = true) : ckR s k a l = rdR s ∧ (rdR s).ok = true := by
  unfold ckR at h ⊢
  split at h
  · rename_i h0
    rw [if_pos h0]
    split at h
    · rename_i h1
      rw [if_pos h1]
      split at h
      · rename_i h2
        rw [if_pos h2]
        split at h
        · rename_i h3
          rw [if_pos h3]
          exact ⟨rfl, h0⟩
        · simp [frNo] at h
      · simp [frNo] at h
    · simp [frNo] at h
  · simp [frNo] at h
theorem ck_good {s : ByteArray} {k a l : Int} (h : (ckR s k a l).ok = true) : goodF (ckR s k a l).K (ckR s k a l).A (ckR s k a l).E (ckR s k a l).B.size := by
  obtain ⟨e, h2⟩ := ck_rd h
  rw [e]
  exact rd_good h2
theorem ckR_small (s : ByteArray) (k a l : Int) : (ckR s k a l).B.size ≤ 16 := by
  cases h : (ckR s k a l).ok with
  | true => exact (ck_good h).2.2
  | false =>
    have : (ckR s k a l).B = ⟨#[]⟩ := by
      unfold ckR at h ⊢
      split
      · rename_i h0
        split
        · split
          · split
            · rename_i h1 h2 h3
              rw [if_pos h0, if_pos h1, if_pos h2, if_pos h3, h0] at h
              simp at h
            · rfl
          · rfl
        · rfl
      · rfl
    rw [this]
    exact Nat.zero_le _
theorem sk_ok (P H : List ByteArray) (B : List Bool) (least : Int) (a : Nat) : okP (sk P H B least a) := by
  intro y hy
  unfold sk at hy
  split at hy
  · simp at hy
  · split at hy
    · rename_i h
      simp only [Option.some.injEq] at hy
      subst hy
      exact ⟨(ck_good h.1).2.1, h.2⟩
    · simp at hy
theorem bdo_length {x : Option (Int × ByteArray)} (h : okP x) : (bdo x).length = 16 := by
  cases x with
  | none => simp [bdo]
  | some y => simp only [bdo, bs_length]; exact (h y rfl).2
theorem bdo_small (x : Option (Int × ByteArray)) : ∀ b ∈ bdo x, b < 256 := by
  cases x with
  | none => intro b hb; simp only [bdo, List.mem_replicate] at hb; omega
  | some y => exact bs_lt y.2
/-- How many of the first k have this Epoch. -/
def cntE (es : List Int) (e : Int) : Nat → Nat
  | 0 => 0
  | k + 1 => cntE es e k + (if es.getD k 0 = e then 1 else 0)
theorem cntE_le (es : List Int) (e : Int) : ∀ k, cntE es e k ≤ k
  | 0 => Nat.le_refl _
  | k + 1 => by
    have := cntE_le es e k
    simp only [cntE]
    split <;> omega
/-- The greatest of the first k Epochs that three have at least, -1 for none. -/
def rtE (es : List Int) : Nat → Int
  | 0 => -1
  | k + 1 => if 3 ≤ cntE es (es.getD k 0) es.length then max (rtE es k) (es.getD k 0) else rtE es k
theorem rtE_ge (es : List Int) : ∀ k, -1 ≤ rtE es k
  | 0 => Int.le_refl _
  | k + 1 => by
    have := rtE_ge es k
    simp only [rtE]
    split <;> omega
/-- The right Epoch is one that three have. -/
theorem rtE_has (es : List Int) : ∀ k, 0 ≤ rtE es k → 3 ≤ cntE es (rtE es k) es.length
  | 0, h => by simp [rtE] at h
  | k + 1, h => by
    simp only [rtE] at h ⊢
    split
    · rename_i h3
      rw [if_pos h3] at h
      by_cases hm : rtE es k ≤ es.getD k 0
      · rw [Int.max_eq_right hm]
        exact h3
      · rw [Int.max_eq_left (by omega)] at h ⊢
        exact rtE_has es k h
    · rename_i h3
      rw [if_neg h3] at h
      exact rtE_has es k h
/-- The numbers of the first k that a test picks. -/
def pkE (f : Int → Bool) (es : List Int) : Nat → List Int
  | 0 => []
  | k + 1 => if f (es.getD k 0) = true then pkE f es k ++ [(k : Int)] else pkE f es k
theorem pkE_le (f : Int → Bool) (es : List Int) : ∀ k, (pkE f es k).length ≤ k
  | 0 => Nat.le_refl _
  | k + 1 => by
    have := pkE_le f es k
    simp only [pkE]
    split
    · simp; omega
    · omega
theorem pkE_not (f : Int → Bool) (es : List Int) : ∀ k, (pkE f es k).length + (pkE (fun e => !f e) es k).length = k
  | 0 => rfl
  | k + 1 => by
    have := pkE_not f es k
    simp only [pkE]
    by_cases h : f (es.getD k 0) = true
    · rw [if_pos h, if_neg (by rw [h]; decide), List.length_append]
      simp only [List.length_cons, List.length_nil]
      omega
    · have h' : f (es.getD k 0) = false := by
        cases hh : f (es.getD k 0) with
        | true => exact absurd hh h
        | false => rfl
      rw [if_neg h, if_pos (by rw [h']; rfl), List.length_append]
      simp only [List.length_cons, List.length_nil]
      omega
theorem pkE_cnt (es : List Int) (r : Int) (f : Int → Bool) (hf : ∀ e, f e = decide (e = r)) : ∀ k, (pkE f es k).length = cntE es r k
  | 0 => rfl
  | k + 1 => by
    have := pkE_cnt es r f hf k
    simp only [pkE, cntE, hf, decide_eq_true_eq]
    split
    · simp; omega
    · simpa using this
theorem pkE_mem (f : Int → Bool) (es : List Int) : ∀ k x, x ∈ pkE f es k → 0 ≤ x ∧ x < (k : Int)
  | 0, x, h => by simp [pkE] at h
  | k + 1, x, h => by
    simp only [pkE] at h
    split at h
    · rcases List.mem_append.1 h with h | h
      · have := pkE_mem f es k x h
        omega
      · simp at h
        omega
    · have := pkE_mem f es k x h
      omega
/-- A sector is one of the right Epoch's. -/
def isE (r e : Int) : Bool := decide (e = r ∧ 0 ≤ e)
/-- Those others. -/
def othE (es : List Int) (r : Int) (k : Nat) : List Int := pkE (fun e => !isE r e) es k
theorem othE_few {es : List Int} (h : 0 ≤ rtE es es.length) : (othE es (rtE es es.length) es.length).length ≤ es.length - 3 := by
  have h1 := rtE_has es es.length h
  have h2 := pkE_not (isE (rtE es es.length)) es es.length
  have h3 := pkE_cnt es (rtE es es.length) (isE (rtE es es.length)) (fun e => by
    unfold isE
    refine decide_eq_decide.2 ⟨fun h => h.1, fun h' => ⟨h', by omega⟩⟩) es.length
  unfold othE
  omega
theorem othE_all {es : List Int} {r : Int} (h : r < 0) : ∀ k, (othE es r k).length = k := by
  intro k
  have h2 := pkE_not (isE r) es k
  have h3 : (pkE (isE r) es k).length = 0 := by
    clear h2
    induction k with
    | zero => rfl
    | succ k ih =>
      have hf : isE r (es.getD k 0) = false := decide_eq_false (fun h' => by omega)
      simp only [pkE, hf]
      simpa using ih
  unfold othE
  omega
end Go.Proofs.YtbgadbokejaomaaGreatDoor
