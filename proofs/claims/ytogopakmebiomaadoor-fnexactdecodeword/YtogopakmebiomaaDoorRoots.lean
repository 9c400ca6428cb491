/-
  The places that a rule tells: the program's rootPlaces and its model's l4Places, call by call. The program's table of rests must hold its seven numbers where the program's own function is called.
-/
import Derived.Test.YtogopakmebiomaaDoorRoot
import Derived.Test.YtogopakmebiomaaDoorSyn
import Derived.Test.YtogopakmebiomaaDoorDivP
namespace Go.Proofs.YtogopakmebiomaaDoor
open Go.RowKit
namespace Gf

set_option maxRecDepth 100000 in
set_option maxHeartbeats 3200000 in
theorem l4Places_calls (v : Value) (c : List Int) (L : Nat) (w : World) (h : Rd w v c) (he : ∀ i, i < c.length → 0 ≤ c.getD i 0 ∧ c.getD i 0 ≤ 255) (hL : L ≤ 24) :
    Calls Tryd.prog 87 #[v, .int .i64 L] w fun e w' => ∃ v', e = .returned v' ∧ Own w' w.heap.size v' (plcN c L) ∧ Below w.heap.size w w' := by
  have R := hide h
  have E := hide he
  clear h he
  go_enter Tryd.func87, Tryd.ntmps87
  go_wp2
  go_loopw [5, 6] (fun vo vk wr => ∃ k : Nat, k ≤ L ∧ vk = .int .i64 k ∧ Own wr w.heap.size vo (plcN c k) ∧ Below w.heap.size w wr) (fun _ vk _ => L - (intOf vk).toNat)
  case atStart => exact ⟨0, Nat.zero_le _, rfl, World.ownsRow_nil _ _ _ _, Below.refl _ _⟩
  case round =>
    obtain ⟨k, hk, rfl, ho, hb⟩ := hrel
    have O := hide ho
    have B := hide hb
    clear ho hb
    by_cases hlt : k < L
    · have hlt' : (k : Int) < (L : Int) := by omega
      go_wp2_with fail
      refine (l1Pow_calls 2 k _ (by omega) (by omega) (by omega) (by omega)).mono ?_
      rintro e w' ⟨rfl, rfl⟩
      rw [Int.toNat_natCast]
      obtain ⟨x, hx⟩ : ∃ x, x = pow 2 k := ⟨_, rfl⟩
      rw [show pow (Int.toNat 2) k = x from hx.symm]
      have hx256 : x < 256 := by rw [hx]; exact pow_lt _ _
      obtain ⟨y, hy⟩ : ∃ y, y = ip k := ⟨_, rfl⟩
      have hy256 : y < 256 := by rw [hy]; exact ip_lt k
      have Y : Hid (mul (Int.toNat 1) (inv x) = y) := by
        show mul 1 (inv x) = y
        rw [one_mul _ (inv_lt _), hy, hx]; rfl
      have HY := hide hy
      clear hx hy
      go_wp2_with fail
      refine (l1Div_calls _ _ _ (by omega) (by omega) (by omega) (by omega)).mono ?_
      rintro e w' ⟨rfl, rfl⟩
      rw [Int.toNat_natCast, Y.out]
      go_wp2_with fail
      refine (l1Eval_calls _ c y _ (R.out.below B.out) (by omega) (by omega) E.out).mono ?_
      rw [Int.toNat_natCast]
      rintro e w2 ⟨rfl, hb2⟩
      obtain ⟨z, hz⟩ : ∃ z, z = ev y c := ⟨_, rfl⟩
      rw [← hz]
      have HZ := hide hz
      have B2 := hide (B.out.trans (hb2.mono B.out.size))
      have O2 := hide (O.out.below hb2)
      clear hb2 O B hz
      by_cases hz0 : z = 0
      · have tz : (((z : Nat) : Int) == 0) = true := by simp [hz0]
        have e : plcN c (k + 1) = plcN c k ++ [(k : Int)] := plcN_yes (by rw [← HY.out, ← HZ.out]; exact hz0)
        have hun := plcN_le c k
        obtain ⟨l, hl⟩ : ∃ l, l = plcN c k := ⟨_, rfl⟩
        rw [← hl] at e O2 hun
        have E2 := hide e
        clear e hl hz0
        go_wp2_with (at_builtin; refine wpList_append_rd rfl (.tmp 18) (.tmp 20) rfl w.heap.size _ l.length l [((k : Nat) : Int)] rfl (O2.out.alloc _) _ rfl rd_single2 (by simp; omega) (by have := B2.out.size; simp; omega) ?_)
        intro v' w3 ho3 hg3
        have hb3 : Below w.heap.size w w3 := (B2.out.alloc B2.out.size _).grown hg3 (by have := B2.out.size; simp; omega) (fun i hi => (O2.out.lt i hi).1)
        rw [← E2.out] at ho3
        have O3 := hide ho3
        have B3 := hide hb3
        clear ho3 hg3 hb3
        go_wp2
        go_roundw
        case rel => exact ⟨k + 1, by omega, by go_num, O3.out, B3.out⟩
        case measure => simp [intOf]; omega
      · have tz : (((z : Nat) : Int) == 0) = false := by simp [hz0]
        have e : plcN c (k + 1) = plcN c k := plcN_no (by rw [← HY.out, ← HZ.out]; exact hz0)
        have E2 := hide e
        clear e hz0
        go_wp2
        go_roundw
        case rel => exact ⟨k + 1, by omega, by go_num, by rw [E2.out]; exact O2.out, B2.out⟩
        case measure => simp [intOf]; omega
    · obtain rfl : k = L := by omega
      go_wp2
      go_ret
      exact ⟨_, rfl, O.out, B.out⟩
end Gf
end Go.Proofs.YtogopakmebiomaaDoor
