/-
  Multiples of a list added to another place by place: the program's function. The contract says what it asks.
-/
import Derived.Test.YtiojipicincgfaaDoorElt
namespace Go.Proofs.YtiojipicincgfaaDoor
open Go.RowKit
namespace Gf

/-- A slice's length, for a loop's measure. -/
def lenOf : Value → Nat
  | .slice _ n _ => n
  | _ => 0
def ci (l : List Nat) : List Int := l.map fun n : Nat => (n : Int)
theorem ci_length (l : List Nat) : (ci l).length = l.length := by simp [ci]
theorem ci_getD (l : List Nat) (i : Nat) : (ci l).getD i 0 = ((l.getD i 0 : Nat) : Int) := by
  simp only [ci, List.getD_eq_getElem?_getD, List.getElem?_map]
  cases l[i]? <;> simp
theorem ci_set (l : List Nat) (i n : Nat) : (ci l).set i (n : Int) = ci (l.set i n) := by simp [ci, List.map_set]
def AllLt (l : List Nat) : Prop := ∀ i, l.getD i 0 < 256
theorem AllLt.set {l : List Nat} (h : AllLt l) (i n : Nat) (hn : n < 256) : AllLt (l.set i n) := by
  intro j
  have := h j
  simp only [List.getD_eq_getElem?_getD, List.getElem?_set] at *
  split
  · split <;> simp <;> omega
  · exact this

theorem wrap_i64 (n : Int) : IntKind.i64.wrap n = (n + 9223372036854775808) % 18446744073709551616 - 9223372036854775808 := by
  simp [IntKind.wrap, IntKind.bits, IntKind.signed]
  omega
def xorAt (s : List Nat) (i d : Nat) : List Nat := s.set i (s.getD i 0 ^^^ d)
def amTo (s q : List Nat) (f at_ : Nat) : Nat → List Nat
  | 0 => s
  | k + 1 => xorAt (amTo s q f at_ k) (at_ + k) (mul f (q.getD k 0))
theorem amTo_length (s q : List Nat) (f a k : Nat) : (amTo s q f a k).length = s.length := by
  induction k with
  | zero => rfl
  | succ k ih => simp [amTo, xorAt, ih]
theorem amTo_lt {s q : List Nat} {f a : Nat} (hs : AllLt s) (hf : f < 256) (k : Nat) : AllLt (amTo s q f a k) := by
  induction k with
  | zero => exact hs
  | succ k ih => exact ih.set _ _ (Nat.xor_lt_two_pow (n := 8) (ih _) (mul_lt hf))

theorem grownBy_drew {w w' : World} {row : Option Nat} (h : w.grownBy w' row) : w.grownBy w'.drew row := ⟨h.os, h.tape, h.output, h.size, h.block⟩
theorem grownBy_trans {w w' w'' : World} {row : Option Nat} (h : w.grownBy w' row) (k : w'.grownBy w'' row) : w.grownBy w'' row :=
  ⟨k.os.trans h.os, k.tape.trans h.tape, k.output.trans h.output, Nat.le_trans h.size k.size, fun j hj hne => (k.block j (Nat.lt_of_lt_of_le hj h.size) hne).trans (h.block j hj hne)⟩

set_option maxRecDepth 100000 in
set_option maxHeartbeats 800000 in
theorem addMultiple_calls (sv qv : Value) (s q : List Nat) (f a : Int) (base : Nat) (w : World) (hT : ∀ w', w.grownBy w' sv.ownBlock → Tab w') (hs : Own w base sv (ci s)) (hq : ∀ w', w.grownBy w' sv.ownBlock → Rd w' qv (ci q))
    (hf0 : 0 ≤ f) (hf : f < 256) (ha0 : 0 ≤ a) (hfit : a + q.length ≤ s.length) (hsl : s.length ≤ 1048576) (hsa : AllLt s) (hqa : AllLt q) (h0 : 0 < s.length) :
    Calls Tryd.prog 78 #[sv, qv, .int .i64 f, .int .i64 a] w fun e w' => e = .returned (.tuple #[]) ∧ Own w' base sv (ci (amTo s q f.toNat a.toNat q.length)) ∧ w.grownBy w' sv.ownBlock := by
  obtain ⟨F, rfl⟩ := Int.eq_ofNat_of_zero_le hf0
  obtain ⟨A, rfl⟩ := Int.eq_ofNat_of_zero_le ha0
  simp only [Int.toNat_natCast]
  obtain ⟨g, cap, rfl, hg1, hg2, _⟩ := Own.open hs (by rw [ci_length]; exact h0)
  rw [ci_length] at hs
  have Q := hide hq
  have T := hide hT
  have S : Hid (w.ownsRow base 3 1 (.slice (some ⟨g, 0, none⟩) s.length cap) s.length ((ci s).map (Value.int .i64))) := by
    have := hs
    unfold Own at this
    rwa [ci_length] at this
  have SA := hide hsa
  have QA := hide hqa
  obtain ⟨qa, qcap, rfl, hq1, hq2, _⟩ := hq w (World.grownBy.refl _ _)
  simp only [ci_length]
  rw [ci_length] at hq1
  clear hq hT hs hsa hqa
  go_enter Tryd.func78, Tryd.ntmps78
  go_wp2
  go_loopw [12] (fun vi wr => ∃ k : Nat, k ≤ q.length ∧ vi = .int .i64 k ∧ wr.ownsRow base 3 1 (.slice (some ⟨g, 0, none⟩) s.length cap) s.length ((ci (amTo s q F A k)).map (Value.int .i64)) ∧ w.grownBy wr (some g)) (fun vi _ => q.length - (intOf vi).toNat)
  case atStart => exact ⟨0, Nat.zero_le _, rfl, S.out, World.grownBy.refl _ _⟩
  case round =>
    obtain ⟨k, hk, rfl, hown, hgr⟩ := hrel
    by_cases hlt : k < q.length
    · obtain ⟨qa', qcap', hv, _, _, h3⟩ := Q.out wr hgr
      have hv2 : qa' = qa := by simp at hv; exact hv.1.symm
      subst hv2
      clear hv
      rcases h3 with h3 | ⟨b, off, rfl, hbs, hc⟩
      · have := congrArg List.length h3
        rw [ci_length] at this
        simp only [List.length_nil] at this; omega
      have hc1 := hc k (by rw [ci_length]; exact hlt)
      rw [ci_getD] at hc1
      clear hc
      have hc2 : wr.frozen? ⟨g, A + k, none⟩ = false := hown.frozenAt (A + k)
      have hc3 : wr.cell? ⟨g, A + k, none⟩ = some (.int .i64 ((amTo s q F A k).getD (A + k) 0 : Nat)) := by
        rw [hown.cellAt (A + k) (by omega), List.getElem?_map]
        have hl : A + k < (ci (amTo s q F A k)).length := by rw [ci_length, amTo_length]; omega
        rw [List.getElem?_eq_getElem hl]
        have := ci_getD (amTo s q F A k) (A + k)
        rw [List.getD_eq_getElem?_getD, List.getElem?_eq_getElem hl, Option.getD_some] at this
        rw [this]; rfl
      have e1 : ((A : Int) + (k : Int)).toNat = A + k := by omega
      have i1 : (0 : Int) ≤ (A : Int) + (k : Int) := by omega
      have i2 : (A : Int) + (k : Int) < (s.length : Int) := by omega
      have i3 : (k : Int) < (q.length : Int) := by omega
      have i4 : IntKind.i64.wrap ((A : Int) + (k : Int)) = (A : Int) + (k : Int) := by rw [wrap_i64]; omega
      obtain ⟨z, hz⟩ : ∃ z, z = q.getD k 0 := ⟨_, rfl⟩
      rw [← hz] at hc1
      obtain ⟨y, hy⟩ : ∃ y, y = (amTo s q F A k).getD (A + k) 0 := ⟨_, rfl⟩
      rw [← hy] at hc3
      have hz256 : z < 256 := by rw [hz]; exact QA.out k
      have hy256 : y < 256 := by rw [hy]; exact amTo_lt SA.out (by omega) k _
      have Z := hide hz
      have Y := hide hy
      have Tr := hide (T.out wr hgr)
      have G := hide hgr
      have O := hide hown
      clear hz hy hgr hown
      go_wp2
      go_region_with (go_at_call 87; refine (mulE_calls _ _ _ (by exact Tr.out) (by omega) (by omega) (by omega) (by omega)).mono ?_; rintro e w' ⟨rfl, rfl⟩)
      all_goals
        go_wp2
        go_roundw
        case rel =>
          refine ⟨k + 1, by omega, by go_num, ?_, ?_⟩
          · have := (O.out.stored (A + k) (.int .i64 (y ^^^ mul F z : Nat))).1
            rw [← List.map_set, ci_set, Y.out, Z.out] at this
            rw [i64_xor _ _ (by omega) (by have := mul_lt (a := F) (b := z) (by omega); omega), Y.out, Z.out]
            exact this.drew
          · exact grownBy_drew (grownBy_trans G.out (O.out.stored (A + k) _).2)
        case measure => simp [intOf]; omega
    · obtain rfl : k = q.length := by omega
      go_wp2
      go_end0
      refine ⟨rfl, ?_, hgr⟩
      show World.ownsRow _ _ _ _ _ (ci _).length _
      rw [ci_length, amTo_length]
      exact hown
def nat (xs : List Int) : List Nat := xs.map Int.toNat
theorem nat_length (xs : List Int) : (nat xs).length = xs.length := by simp [nat]
theorem allLt_zeros (n : Nat) : AllLt (List.replicate n 0) := by
  intro i
  rw [List.getD_eq_getElem?_getD, List.getElem?_replicate]
  split <;> simp

end Gf
end Go.Proofs.YtiojipicincgfaaDoor
