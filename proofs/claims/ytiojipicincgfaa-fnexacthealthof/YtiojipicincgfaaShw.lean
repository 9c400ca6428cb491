/-
  A health compared, marked, and whether the marks are held: the laws' own functions, call by call. Each contract says what it asks.
-/
import Derived.Test.YtiojipicincgfaaSho
namespace Go.Proofs.Ytiojipicincgfaa
open Go.RowKit
set_option linter.unusedVariables false

set_option maxRecDepth 100000 in
set_option maxHeartbeats 800000 in
theorem eqHealth_same (l1 s1 l2 s2 : Value) (X Y : List Int) (ww : Bool) (w : World) (h1 : Rd w l1 X) (h2 : Rd w s1 Y) (h3 : Rd w l2 X) (h4 : Rd w s2 Y) :
    Calls Try.prog 9 #[.agg #[l1, s1, .bool ww], .agg #[l2, s2, .bool ww]] w fun e w' => e = .returned (.bool true) ∧ Below w.heap.size w w' := by
  have A0 : Hid (Hand w ((w.alloc (.cells #[l1, s1, .bool ww] 29)).alloc (.cells #[l2, s2, .bool ww] 29)) [TBox (w.heap.size + 1) #[l2, s2, .bool ww] 29, TBox w.heap.size #[l1, s1, .bool ww] 29]) := by
    show Hand _ _ _
    have := ((Hand.start w).box #[l1, s1, .bool ww] 29).box #[l2, s2, .bool ww] 29
    simpa using this
  have R1 := hide h1
  have R2 := hide h2
  have R3 := hide h3
  have R4 := hide h4
  clear h1 h2 h3 h4
  go_enter Try.func9, Try.ntmps9
  obtain ⟨a0, a1, a2⟩ := (A0.out.atBox 0 rfl).c3
  obtain ⟨b0, b1, b2⟩ := (A0.out.atBox 1 rfl).c3
  go_wp2_with fail
  refine (eqIntS_same _ _ X _ (R1.out.below A0.out.below) (R3.out.below A0.out.below)).mono ?_
  rintro e w1 ⟨rfl, q⟩
  have A1 := hide (A0.out.step q)
  clear q A0 a0 a1 a2 b0 b1 b2
  obtain ⟨a0, a1, a2⟩ := (A1.out.atBox 0 rfl).c3
  obtain ⟨b0, b1, b2⟩ := (A1.out.atBox 1 rfl).c3
  go_wp2_with fail
  refine (eqIntS_same _ _ Y _ (R2.out.below A1.out.below) (R4.out.below A1.out.below)).mono ?_
  rintro e w2 ⟨rfl, q⟩
  have A2 := hide (A1.out.step q)
  clear q A1 a0 a1 a2 b0 b1 b2
  obtain ⟨a0, a1, a2⟩ := (A2.out.atBox 0 rfl).c3
  obtain ⟨b0, b1, b2⟩ := (A2.out.atBox 1 rfl).c3
  go_wp2
  go_ret
  exact ⟨rfl, A2.out.below⟩

set_option maxRecDepth 100000 in
set_option maxHeartbeats 800000 in
theorem markHealth_calls (l s : Value) (X Y : List Int) (ww : Bool) (k : Int) (lo hi : Nat) (w : World) (t : Two w lo hi l s X Y) (hhi : hi ≤ w.heap.size) (hk0 : 0 ≤ k) (hk : k ≤ 1000000) (hx : X.length ≤ 1000) (hy : Y.length ≤ 1000) :
    Calls Try.prog 12 #[.agg #[l, s, .bool ww], .int .i64 k] w fun e w' => e = .returned (.int .i64 (k + X.length + Y.length)) ∧ Two w' lo hi l s (marks k X.length) (marks (k + X.length) Y.length) ∧ Chg lo hi w w' := by
  have D0 := hide (t.below (below_box w (.cells #[l, s, .bool ww] 29)))
  have C0 : Hid (Chg lo hi w (w.alloc (.cells #[l, s, .bool ww] 29))) := Chg.ofAlloc w _
  have X0 := hide (BoxAt.new w #[l, s, .bool ww] 29)
  clear t
  obtain ⟨n1, e1⟩ : ∃ n, n = k + X.length := ⟨_, rfl⟩
  rw [← e1]
  have b1 : n1 ≤ 1001000 := by omega
  have p1 : 0 ≤ n1 := by omega
  have E1 := hide e1
  clear e1
  go_enter Try.func12, Try.ntmps12
  go_wp2_with fail
  refine (markIntS_calls _ X k lo _ D0.out.a hk0 (by omega) (by omega)).mono ?_
  rintro e w1 ⟨rfl, o1, g1⟩
  have ch : Chg lo hi (w.alloc (.cells #[l, s, .bool ww] 29)) w1 := Chg.ofGrown g1 fun j hj => ⟨row_low D0.out.a j hj, D0.out.ta j hj⟩
  have C1 := hide (C0.out.trans ch)
  have X1 := hide (X0.out.chg ch (.inr hhi))
  have D1 : Hid (Two w1 lo hi l s (marks k X.length) Y) := ⟨by have := o1; exact this, World.ownsRow.kept D0.out.b g1 (ne_swap D0.out.ne), D0.out.ta, D0.out.tb, D0.out.ne⟩
  clear o1 g1 C0 X0 D0 ch
  rw [← E1.out]
  obtain ⟨c0, c1, c2⟩ := X1.out.c3
  clear c0 c2
  go_wp2_with fail
  refine (markIntS_calls _ Y n1 lo _ D1.out.b p1 (by omega) (by omega)).mono ?_
  rintro e w2 ⟨rfl, o1, g1⟩
  have ch : Chg lo hi w1 w2 := Chg.ofGrown g1 fun j hj => ⟨row_low D1.out.b j hj, D1.out.tb j hj⟩
  have C2 := hide (C1.out.trans ch)
  have D2 : Hid (Two w2 lo hi l s (marks k X.length) (marks n1 Y.length)) := ⟨World.ownsRow.kept D1.out.a g1 D1.out.ne, by have := o1; exact this, D1.out.ta, D1.out.tb, D1.out.ne⟩
  clear o1 g1 C1 X1 D1 ch c1
  go_wp2
  go_ret
  exact ⟨rfl, D2.out, C2.out⟩

set_option maxRecDepth 100000 in
set_option maxHeartbeats 800000 in
theorem heldHealth_calls (l s : Value) (n m : Nat) (ww : Bool) (k : Int) (w : World) (h1 : Rd w l (marks k n)) (h2 : Rd w s (marks (k + n) m)) (hk0 : 0 ≤ k) (hk : k ≤ 1000000) (hn : n ≤ 1000) (hm : m ≤ 1000) :
    Calls Try.prog 13 #[.agg #[l, s, .bool ww], .int .i64 k] w fun e w' => e = .returned (.int .i64 (k + n + m)) ∧ Below w.heap.size w w' := by
  have B0 := hide (below_box w (.cells #[l, s, .bool ww] 29))
  obtain ⟨c0, c1, c2⟩ := (BoxAt.new w #[l, s, .bool ww] 29).c3
  have C1 := hide (fun W h => heldIntS_calls l n k W h hk0 (by omega) (by omega))
  have C2 := hide (fun W h => heldIntS_calls s m (k + n) W h (by omega) (by omega) (by omega))
  obtain ⟨n1, e1⟩ : ∃ x, x = k + (n : Int) := ⟨_, rfl⟩
  rw [← e1] at C2 h2 ⊢
  have b1 : n1 ≤ 1001000 := by omega
  have p1 : ¬ n1 < 0 := by omega
  have p2 : ¬ n1 + (m : Int) < 0 := by omega
  have E1 := hide e1
  have R1 := hide h1
  have R2 := hide h2
  clear e1 h1 h2
  go_enter Try.func13, Try.ntmps13
  go_wp2_with fail
  refine (C1.out _ (R1.out.below B0.out)).mono ?_
  rintro e w1 ⟨rfl, rfl⟩
  rw [← E1.out]
  go_wp2_with fail
  refine (C2.out _ (R2.out.below B0.out)).mono ?_
  rintro e w1 ⟨rfl, rfl⟩
  go_wp2
  go_ret
  exact ⟨rfl, B0.out⟩
end Go.Proofs.Ytiojipicincgfaa
