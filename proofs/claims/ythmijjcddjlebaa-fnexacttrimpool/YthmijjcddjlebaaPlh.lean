/-
  PutIn by the program: two branches are put behind a pool's, and a version behind its versions. Each contract says what it asks.
-/
import Derived.Test.YthmijjcddjlebaaPlg
namespace Go.Proofs.Ythmijjcddjlebaa
open Go.RowKit
set_option linter.unusedVariables false

/-- Two branches behind the others. -/
theorem BrV.push2 {w w' : World} {lo hi hM hi2 : Nat} {v v' u1 u2 : Value} {es us : List Value} {qs : List (List Int)} {xs : List Nd} {x1 x2 : Nd} (h : BrV w lo hi v es us qs xs) (h1 : Own w lo u1 x1.1) (h2 : Own w lo u2 x2.1) (hm : hi ≤ hM) (hh : hM ≤ hi2) (hu1 : ∀ b, u1.ownBlock = some b → b < hM ∧ hi ≤ b) (hu2 : ∀ b, u2.ownBlock = some b → b < hi2 ∧ hM ≤ b)
    (hn : w'.ownsRow lo 104 2 v' (xs.length + 2) (ndC us xs ++ [u1, .bool x1.2, u2, .bool x2.2])) (hg : w.grownBy w' v.ownBlock) (hv : ∀ k, v'.ownBlock = some k → k < hi2) : BrV w' lo hi2 v' es (us ++ [u1, u2]) qs (xs ++ [x1, x2]) := by
  refine ⟨?_, hv, h.lenE, ?_⟩
  · have e : ndC us xs ++ [u1, .bool x1.2, u2, .bool x2.2] = ndC (us ++ [u1, u2]) (xs ++ [x1, x2]) := by
      have e1 := ndC_push us xs u1 x1 h.len
      have e2 := ndC_push (us ++ [u1]) (xs ++ [x1]) u2 x2 (by simp [h.len])
      rw [← e1] at e2
      simpa using e2
    rw [e] at hn
    rw [List.length_append]
    exact hn
  · have P := (h.rws.push (hi2 := hM) (u := u1) (r := x1.1) h1 hm hu1).push (hi2 := hi2) (u := u2) (r := x2.1) h2 hh hu2
    have P2 := P.kept hg fun j hj => h.off' (P.row j hj)
    simpa using P2
theorem run_app_br2 {W : World} (ty : TypeId) (lo hi hM : Nat) (v : Value) (es us : List Value) (qs : List (List Int)) (xs : List Nd) (hN : BrV W lo hi v es us qs xs)
    (gx : Nat) (a1 a2 : Option Addr) (n1 k1 n2 k2 : Nat) (y1 y2 : Nd) (hx : BoxAt W gx #[.slice a1 n1 k1, .bool y1.2, .slice a2 n2 k2, .bool y2.2] 104) (ho1 : Own W lo (.slice a1 n1 k1) y1.1) (ho2 : Own W lo (.slice a2 n2 k2) y2.1)
    (hu1 : ∀ b, (Value.slice a1 n1 k1).ownBlock = some b → b < hM ∧ hi ≤ b) (hu2 : ∀ b, (Value.slice a2 n2 k2).ownBlock = some b → hM ≤ b) (hm1 : hi ≤ hM) (hm2 : hM ≤ W.heap.size) (hm : xs.length ≤ 1048576) (hlo : lo ≤ W.heap.size) :
    ∃ v' w', (Builtin.append_ #[40, 40] ty #[v, .slice (some ⟨gx, 0, none⟩) 2 2]).run Try.prog W = .ok v' w' ∧ BrV w' lo w'.heap.size v' es (us ++ [.slice a1 n1 k1, .slice a2 n2 k2]) qs (xs ++ [y1, y2]) ∧ W.grownBy w' v.ownBlock := by
  obtain ⟨i0, hi0, hz0, hz1, hz2⟩ := info_parts infoNdB
  obtain ⟨c0, c1, c2, c3⟩ := hx.c4
  obtain ⟨v', w', hrun, ho', hg', _, hat⟩ := run_append_own_at (P := Try.prog) W lo 40 ty 104 i0 (.agg #[.slice none 0 0, .bool false]) 2 32 Try.underlying40 hi0 hz0 hz1 hz2 rfl (by decide) v xs.length _ hN.head ⟨gx, 0, none⟩ 2 2 [.slice a1 n1 k1, .bool y1.2, .slice a2 n2 k2, .bool y2.2] rfl
    (fun j z hj => by
      rcases j with _ | _ | _ | _ | j
      · simp at hj; subst hj; simpa [Addr.add] using c0
      · simp at hj; subst hj; simpa [Addr.add] using c1
      · simp at hj; subst hj; simpa [Addr.add] using c2
      · simp at hj; subst hj; simpa [Addr.add] using c3
      · simp at hj)
    (fun z hz => by
      simp only [List.mem_cons, List.not_mem_nil, or_false] at hz
      rcases hz with rfl | rfl | rfl | rfl <;> rfl)
    (by unfold maxLen; omega) (by omega) hlo
  have hs := hg'.size
  refine ⟨v', w', hrun, ?_, hg'⟩
  exact hN.push2 (hM := hM) (hi2 := w'.heap.size) ho1 ho2 hm1 (by omega) hu1 (fun b hb => ⟨by have := (World.ownsRow.lt ho2 b hb).2; omega, hu2 b hb⟩) ho' hg' (fun k hk => (World.ownsRow.lt ho' k hk).2)
theorem step_app_br2 {W : World} {ops : Array Oper} {o : Oper} {a : Act} {K : Act → World → Prop} {Q : Exit → Act → World → Prop} {E : Prop} (hgd : o.guard = none) (s x : Operand)
    (ho : o.op = .call { callee := .builtin .append, args := #[s, x], argTypes := #[40, 40] }) (lo hi hM : Nat) (v : Value) (hs : a.eval s = v) (es us : List Value) (qs : List (List Int)) (xs : List Nd) (hN : BrV W lo hi v es us qs xs)
    (gx : Nat) (hxx : a.eval x = .slice (some ⟨gx, 0, none⟩) 2 2) (a1 a2 : Option Addr) (n1 k1 n2 k2 : Nat) (y1 y2 : Nd) (hx : BoxAt W gx #[.slice a1 n1 k1, .bool y1.2, .slice a2 n2 k2, .bool y2.2] 104) (ho1 : Own W lo (.slice a1 n1 k1) y1.1) (ho2 : Own W lo (.slice a2 n2 k2) y2.1)
    (hu1 : ∀ b, (Value.slice a1 n1 k1).ownBlock = some b → b < hM ∧ hi ≤ b) (hu2 : ∀ b, (Value.slice a2 n2 k2).ownBlock = some b → hM ≤ b) (hm1 : hi ≤ hM) (hm2 : hM ≤ W.heap.size) (hm : xs.length ≤ 1048576) (hlo : lo ≤ W.heap.size)
    (h : ∀ v' w', BrV w' lo w'.heap.size v' es (us ++ [.slice a1 n1 k1, .slice a2 n2 k2]) qs (xs ++ [y1, y2]) → W.grownBy w' v.ownBlock → K (a.put o.dst v') w') :
    if Region.wanted o (yielded ops a.tmps) = true then Oper.wp Try.prog o a W K Q else E := by
  have hw : Region.wanted o (yielded ops a.tmps) = true := by simp [Region.wanted, hgd]
  rw [if_pos hw]
  obtain ⟨v', w', hrun, h1, h2⟩ := run_app_br2 (W := W) o.type lo hi hM v es us qs xs hN gx a1 a2 n1 k1 n2 k2 y1 y2 hx ho1 ho2 hu1 hu2 hm1 hm2 hm hlo
  unfold Oper.wp execOp
  simp only [ho, resolve, invoke, builtin, Sem.run_bind, Sem.run_pure, Result.andThen_ok, List.map_toArray, List.map_cons, List.map_nil, hs, hxx, hrun]
  exact h v' w' h1 h2
theorem wpList_app_br2 {W : World} {ops : Array Oper} {rest : List Oper} {o : Oper} {a : Act} {Q : Exit → Act → World → Prop} (hgd : o.guard = none) (s x : Operand)
    (ho : o.op = .call { callee := .builtin .append, args := #[s, x], argTypes := #[40, 40] }) (lo hi hM : Nat) (v : Value) (hs : a.eval s = v) (es us : List Value) (qs : List (List Int)) (xs : List Nd) (hN : BrV W lo hi v es us qs xs)
    (gx : Nat) (hxx : a.eval x = .slice (some ⟨gx, 0, none⟩) 2 2) (a1 a2 : Option Addr) (n1 k1 n2 k2 : Nat) (y1 y2 : Nd) (hx : BoxAt W gx #[.slice a1 n1 k1, .bool y1.2, .slice a2 n2 k2, .bool y2.2] 104) (ho1 : Own W lo (.slice a1 n1 k1) y1.1) (ho2 : Own W lo (.slice a2 n2 k2) y2.1)
    (hu1 : ∀ b, (Value.slice a1 n1 k1).ownBlock = some b → b < hM ∧ hi ≤ b) (hu2 : ∀ b, (Value.slice a2 n2 k2).ownBlock = some b → hM ≤ b) (hm1 : hi ≤ hM) (hm2 : hM ≤ W.heap.size) (hm : xs.length ≤ 1048576) (hlo : lo ≤ W.heap.size)
    (h : ∀ v' w', BrV w' lo w'.heap.size v' es (us ++ [.slice a1 n1 k1, .slice a2 n2 k2]) qs (xs ++ [y1, y2]) → W.grownBy w' v.ownBlock → wpList Try.prog ops Q rest (a.put o.dst v') w') : wpList Try.prog ops Q (o :: rest) a W := by
  refine wpList_plain hgd fun K hK => ?_
  obtain ⟨v', w', hrun, h1, h2⟩ := run_app_br2 (W := W) o.type lo hi hM v es us qs xs hN gx a1 a2 n1 k1 n2 k2 y1 y2 hx ho1 ho2 hu1 hu2 hm1 hm2 hm hlo
  unfold Oper.wp execOp
  simp only [ho, resolve, invoke, builtin, Sem.run_bind, Sem.run_pure, Result.andThen_ok, List.map_toArray, List.map_cons, List.map_nil, hs, hxx, hrun]
  exact hK _ _ (h v' w' h1 h2)

set_option maxRecDepth 100000 in
set_option maxHeartbeats 1600000 in
theorem with_calls (a b c d k y e f g h' : Int) (w : World) (hk : k = 0 ∨ k = 1 ∨ k = 2 ∨ k = 3) (hx : [a, b, c, d].set k.toNat y = [e, f, g, h']) :
    Calls Try.prog 99 #[.agg #[.int .i64 a, .int .i64 b, .int .i64 c, .int .i64 d], .int .i64 k, .int .i64 y] w fun e' w' => e' = .returned (.agg #[.int .i64 e, .int .i64 f, .int .i64 g, .int .i64 h']) ∧ Below w.heap.size w w' := by
  have A := hide (Hand.twoP w #[.int .i64 e, .int .i64 f, .int .i64 g, .int .i64 h'] #[.int .i64 e, .int .i64 f, .int .i64 g, .int .i64 h'] 116 116)
  rcases hk with rfl | rfl | rfl | rfl
  · obtain ⟨rfl, rfl, rfl, rfl⟩ : y = e ∧ b = f ∧ c = g ∧ d = h' := by simpa using hx
    go_enter Try.func99, Try.ntmps99
    go_wp2
    exact bodyPost_ret (res_f4 rfl _ _ (w.heap.size + 1) _ _ _ _ (0, 0) rfl (A.out.atBox 0 rfl)) rfl ⟨rfl, A.out.below⟩
  · obtain ⟨rfl, rfl, rfl, rfl⟩ : a = e ∧ y = f ∧ c = g ∧ d = h' := by simpa using hx
    go_enter Try.func99, Try.ntmps99
    go_wp2
    exact bodyPost_ret (res_f4 rfl _ _ (w.heap.size + 1) _ _ _ _ (0, 0) rfl (A.out.atBox 0 rfl)) rfl ⟨rfl, A.out.below⟩
  · obtain ⟨rfl, rfl, rfl, rfl⟩ : a = e ∧ b = f ∧ y = g ∧ d = h' := by simpa using hx
    go_enter Try.func99, Try.ntmps99
    go_wp2
    exact bodyPost_ret (res_f4 rfl _ _ (w.heap.size + 1) _ _ _ _ (0, 0) rfl (A.out.atBox 0 rfl)) rfl ⟨rfl, A.out.below⟩
  · obtain ⟨rfl, rfl, rfl, rfl⟩ : a = e ∧ b = f ∧ c = g ∧ y = h' := by simpa using hx
    go_enter Try.func99, Try.ntmps99
    go_wp2
    exact bodyPost_ret (res_f4 rfl _ _ (w.heap.size + 1) _ _ _ _ (0, 0) rfl (A.out.atBox 0 rfl)) rfl ⟨rfl, A.out.below⟩

/-- Four numbers in a variable, read as a list. -/
theorem rd_four {w : World} {g : Nat} {a b c d : Int} {T : TypeId} (h : BoxAt w g #[.int .i64 a, .int .i64 b, .int .i64 c, .int .i64 d] T) : Rd w (.slice (some ⟨g, 0, none⟩) 4 4) [a, b, c, d] := by
  refine ⟨_, 4, rfl, Nat.le_refl _, ⟨by unfold maxLen; omega, fun h => by cases h⟩, .inr ⟨g, 0, rfl, h.lt, fun i hi => ?_⟩⟩
  rw [Nat.zero_add, h.cell i]
  have : i < 4 := hi
  match i, this with
  | 0, _ => rfl
  | 1, _ => rfl
  | 2, _ => rfl
  | 3, _ => rfl

set_option maxRecDepth 100000 in
set_option maxHeartbeats 800000 in
theorem list_calls (a b c d : Int) (w : World) :
    Calls Try.prog 140 #[.agg #[.int .i64 a, .int .i64 b, .int .i64 c, .int .i64 d]] w fun e' w' => ∃ v', e' = .returned v' ∧ Own w' w.heap.size v' [a, b, c, d] ∧ Below w.heap.size w w' := by
  have b0 := below_box w (.cells #[.int .i64 a, .int .i64 b, .int .i64 c, .int .i64 d] 116)
  have X := hide (rd_four (BoxAt.new w #[.int .i64 a, .int .i64 b, .int .i64 c, .int .i64 d] 116))
  have B0 := hide b0
  clear b0
  go_enter Try.func140, Try.ntmps140
  go_wp2_with fail
  refine (copyInts_calls _ [a, b, c, d] _ X.out (by simp)).mono ?_
  rintro e' w1 ⟨v', rfl, o, q⟩
  have O := hide (ownsRow_mono o B0.out.size)
  have B := hide (B0.out.trans (q.mono B0.out.size))
  clear o q
  go_wp2
  go_ret
  exact ⟨_, rfl, O.out, B.out⟩

set_option maxRecDepth 100000 in
set_option maxHeartbeats 800000 in
theorem leafBranch_calls (a b c d : Int) (w : World) :
    Calls Try.prog 101 #[.agg #[.int .i64 a, .int .i64 b, .int .i64 c, .int .i64 d]] w fun e' w' => ∃ a' k', e' = .returned (.agg #[.slice a' 4 k', .bool true]) ∧ Own w' w.heap.size (.slice a' 4 k') [a, b, c, d] ∧ Below w.heap.size w w' := by
  have A0 := hide (Hand.twoP w #[.int .i64 a, .int .i64 b, .int .i64 c, .int .i64 d] #[.slice none 0 0, .bool false] 120 104)
  go_enter Try.func101, Try.ntmps101
  go_wp2_with fail
  refine (list_calls a b c d _).mono ?_
  rintro e' w1 ⟨v', rfl, o, q⟩
  obtain ⟨a1, k1, rfl⟩ := row_slice o
  have A1 := hide (A0.out.add q (TInts.st _ _) ⟨o, row_top o⟩)
  clear o q A0
  have xr := A1.out.atBox 1 rfl
  obtain ⟨d0, d1⟩ := xr.c2
  have g0 := xr.frozen 0
  have g1 := xr.frozen 1
  have A2 := hide (A1.out.store2 1 rfl (.slice a1 4 k1) (.bool true))
  clear xr A1
  go_wp2
  exact bodyPost_ret (res_ndB rfl _ _ (w.heap.size + 1) _ _ (0, 0) rfl (A2.out.atBox 1 rfl)) rfl ⟨_, _, rfl, A2.out.wideI 0 rfl, A2.out.below⟩

set_option maxRecDepth 100000 in
set_option maxHeartbeats 800000 in
theorem stemBranch_calls (a b c d : Int) (w : World) :
    Calls Try.prog 102 #[.agg #[.int .i64 a, .int .i64 b, .int .i64 c, .int .i64 d]] w fun e' w' => ∃ a' k', e' = .returned (.agg #[.slice a' 4 k', .bool false]) ∧ Own w' w.heap.size (.slice a' 4 k') [a, b, c, d] ∧ Below w.heap.size w w' := by
  have A0 := hide (Hand.twoP w #[.int .i64 a, .int .i64 b, .int .i64 c, .int .i64 d] #[.slice none 0 0, .bool false] 118 104)
  go_enter Try.func102, Try.ntmps102
  go_wp2_with fail
  refine (list_calls a b c d _).mono ?_
  rintro e' w1 ⟨v', rfl, o, q⟩
  obtain ⟨a1, k1, rfl⟩ := row_slice o
  have A1 := hide (A0.out.add q (TInts.st _ _) ⟨o, row_top o⟩)
  clear o q A0
  have xr := A1.out.atBox 1 rfl
  obtain ⟨d0, d1⟩ := xr.c2
  have g0 := xr.frozen 0
  have g1 := xr.frozen 1
  have A2 := hide (A1.out.store2 1 rfl (.slice a1 4 k1) (.bool false))
  clear xr A1
  go_wp2
  exact bodyPost_ret (res_ndB rfl _ _ (w.heap.size + 1) _ _ (0, 0) rfl (A2.out.atBox 1 rfl)) rfl ⟨_, _, rfl, A2.out.wideI 0 rfl, A2.out.below⟩
end Go.Proofs.Ythmijjcddjlebaa
