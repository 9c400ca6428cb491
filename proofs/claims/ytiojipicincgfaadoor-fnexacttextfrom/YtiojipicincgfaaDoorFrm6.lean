/-
  A frame's bytes: the model's functions, call by call. No condition but a bound on the body's length.
-/
import Derived.Test.YtiojipicincgfaaDoorFrs
import Derived.Deep.RegionHeld3
import Derived.Deep.OwnRows
namespace Go.Proofs.YtiojipicincgfaaDoor
open Go.RowKit

/-- A stronger condition on worlds may be held from here on. -/
theorem wpAnyH_imp {P : Program} {md : Region.Mode} {ops : Array Oper} {Q : Exit → Act → World → Prop} {S S' : World → Prop} (hS : ∀ w, S' w → S w) : ∀ (fuel : Nat) (listed : Array Bool) (a : Act) (w : World),
    wpAnyH P md ops Q S' fuel listed a w → wpAnyH P md ops Q S fuel listed a w
  | 0, _, _, _, h => h
  | fuel + 1, _, _, _, h => ⟨h.1, fun i hi => wpOp_mono (fun _ _ h2 => ⟨hS _ h2.1, wpAnyH_imp hS fuel _ _ _ h2.2⟩) (h.2 i hi)⟩

theorem headB_parts (k a e : Nat) (b : ByteArray) (hk : k < 256) (ha : a < 65536) (he : e < 65536) (h : b.size ≤ 16) :
    ofN (hiB k 1) ++ ofN (hiB a 2) ++ ofN (hiB e 2) ++ ofN (hiB b.size 1) ++ b ++ zst (16 - b.size + 2) = ofN (headB k a e (bs b)) := by
  have e1 : zst (16 - b.size + 2) = ofN (List.replicate (18 - b.size) 0) := by
    have := ofN_bs (zst (16 - b.size + 2))
    rw [bs_zst] at this
    rw [← this]
    congr 2
    omega
  have e2 : b = ofN (bs b) := (ofN_bs b).symm
  rw [e1]
  conv => lhs; rw [show (ofN (hiB k 1) ++ ofN (hiB a 2) ++ ofN (hiB e 2) ++ ofN (hiB b.size 1) ++ b) = (ofN (hiB k 1) ++ ofN (hiB a 2) ++ ofN (hiB e 2) ++ ofN (hiB b.size 1) ++ ofN (bs b)) by rw [← e2]]
  rw [ofN_append, ofN_append, ofN_append, ofN_append, ofN_append]
  congr 1
  unfold headB
  rw [bs_length]
  have k1 : hiB k 1 = [k] := by simp [hiB]; omega
  have a1 : hiB a 2 = [a / 256, a % 256] := by simp [hiB]; omega
  have c1 : hiB e 2 = [e / 256, e % 256] := by simp [hiB]; omega
  have b1 : hiB b.size 1 = [b.size] := by simp [hiB]; omega
  rw [k1, a1, c1, b1]
  simp
theorem hi1_calls (n : Nat) (w : World) (hn : n < 4294967296) : Calls Tryd.prog 33 #[.int .i64 n, .int .i64 1] w fun e w' => e = .returned (.string (ofN (hiB n 1))) ∧ Below w.heap.size w w' := l6Bytes_calls n 1 w hn (by omega)
theorem hi2_calls (n : Nat) (w : World) (hn : n < 4294967296) : Calls Tryd.prog 33 #[.int .i64 n, .int .i64 2] w fun e w' => e = .returned (.string (ofN (hiB n 2))) ∧ Below w.heap.size w w' := l6Bytes_calls n 2 w hn (by omega)

end Go.Proofs.YtiojipicincgfaaDoor
