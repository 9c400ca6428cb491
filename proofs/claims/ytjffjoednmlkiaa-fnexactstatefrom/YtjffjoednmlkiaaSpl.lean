/-
  A text in pieces: the model's SplitBody and the program's, call by call. No condition but a bound on the text's length.
-/
import Derived.Test.YtjffjoednmlkiaaTxm
import Derived.Test.YtjffjoednmlkiaaFrr
namespace Go.Proofs.Ytjffjoednmlkiaa
open Go.RowKit
set_option linter.unusedVariables false

/-- The k-th piece of 16 bytes. -/
def pc (S : ByteArray) (k : Nat) : ByteArray := ofN (((bs S).drop (16 * k)).take 16)
def pcs (S : ByteArray) (k : Nat) : List ByteArray := (List.range k).map (pc S)
theorem pcs_succ (S : ByteArray) (k : Nat) : pcs S (k + 1) = pcs S k ++ [pc S k] := by simp [pcs, List.range_succ]
theorem pcs_length (S : ByteArray) (k : Nat) : (pcs S k).length = k := by simp [pcs]
theorem pc_size (S : ByteArray) (k : Nat) : (pc S k).size = min 16 (S.size - 16 * k) := by
  unfold pc
  rw [ofN_size, List.length_take, List.length_drop, bs_length]
theorem pcs_small (S : ByteArray) (k : Nat) : ∀ s ∈ pcs S k, s.size ≤ maxLen := by
  intro s hs
  simp only [pcs, List.mem_map, List.mem_range] at hs
  obtain ⟨i, _, rfl⟩ := hs
  rw [pc_size]
  unfold maxLen
  omega
/-- How many pieces there are. -/
def many (S : ByteArray) : Nat := (S.size + 15) / 16
def splR (S : ByteArray) : List ByteArray × Bool := if 1 ≤ S.size ∧ S.size ≤ 160 then (pcs S (many S), true) else ([], false)
theorem ext_take (l : List Nat) (k : Nat) : (ofN l).extract 0 k = ofN (l.take k) := by
  have e := ByteArray.extract_mk (l.map UInt8.ofNat) 0 k
  unfold ofN
  have : (ByteArray.mk (l.map UInt8.ofNat).toArray).extract 0 k = ByteArray.mk ((l.map UInt8.ofNat).take k).toArray := by simpa using e
  rw [this, List.map_take]
theorem ext_drop (l : List Nat) (k n : Nat) (h : n = l.length) : (ofN l).extract k n = ofN (l.drop k) := by
  subst h
  have e := ByteArray.extract_mk (l.map UInt8.ofNat) k l.length
  unfold ofN
  have e2 : ((l.map UInt8.ofNat).drop k).take (l.length - k) = (l.map UInt8.ofNat).drop k := List.take_of_length_le (by rw [List.length_drop, List.length_map]; exact Nat.le_refl _)
  rw [e2] at e
  rw [List.map_drop]
  exact e
theorem ownT_nil (w : World) (base : Nat) : OwnT w base (.slice none 0 0) [] := World.ownsRow_nil _ _ _ _
theorem own_ge {w : World} {base : Nat} {v : Value} {xs : List ByteArray} (h : OwnT w base v xs) : ∀ j, v.ownBlock = some j → base ≤ j := by
  intro j hj
  rcases h.2 with ⟨rfl, _⟩ | ⟨g, cap, cur, rfl, hb, _⟩
  · simp [Value.ownBlock] at hj
  · simp [Value.ownBlock] at hj
    omega
theorem ownsRow_less {w : World} {base base' n : Nat} {v : Value} {xs : List Value} (h : w.ownsRow base 9 1 v n xs) (hb : base' ≤ base) : w.ownsRow base' 9 1 v n xs := by
  refine ⟨h.1, ?_⟩
  rcases h.2 with hn | ⟨g, cap, cur, rfl, hb', rest⟩
  · exact .inl hn
  · exact .inr ⟨g, cap, cur, rfl, Nat.le_trans hb hb', rest⟩
theorem own_slice {w : World} {base : Nat} {v : Value} {xs : List ByteArray} (h : OwnT w base v xs) : ∃ a cap, v = .slice a xs.length cap := by
  rcases h.2 with ⟨rfl, h0⟩ | ⟨g, cap, cur, rfl, hb, _⟩
  · exact ⟨none, 0, by rw [h0]⟩
  · exact ⟨_, cap, rfl⟩
theorem OwnT.wide {w : World} {base n : Nat} {v : Value} {xs : List ByteArray} (h : OwnT w base v xs) (hn : n = xs.length) : w.ownsRow base 9 1 v n (xs.map Value.string) := by rw [hn]; exact h

theorem BRow.grown {w w' : World} {g m : Nat} {l : List Nat} {r : Option Nat} (h : BRow w g m l) (hg : w.grownBy w' r) (hne : ∀ j, r = some j → g < j) : BRow w' g m l := by
  have hl := h.lt
  obtain ⟨C, h1, h2⟩ := h
  refine ⟨C, ?_, h2⟩
  rw [hg.block g hl (fun e => by have := hne g e.symm; omega)]
  exact h1

theorem splR_facts (S : ByteArray) : (splR S).1.length ≤ 10 ∧ ∀ s ∈ (splR S).1, s.size ≤ maxLen := by
  unfold splR
  split
  · refine ⟨?_, pcs_small S _⟩
    show (pcs S (many S)).length ≤ 10
    rw [pcs_length]
    unfold many
    omega
  · exact ⟨by simp, by simp⟩
end Go.Proofs.Ytjffjoednmlkiaa
