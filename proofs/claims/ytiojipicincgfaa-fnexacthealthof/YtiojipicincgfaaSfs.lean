/-
  A stripe found: the program's findStripe. The contract says what it asks.
-/
import Derived.Test.YtiojipicincgfaaSrt
namespace Go.Proofs.Ytiojipicincgfaa
open Go.RowKit
set_option linter.unusedVariables false

theorem infoPc : (Try.prog.info? 70).map (fun i => (i.zero, i.size, i.bytes)) = some (some .nilIface, 1, 16) := by kernel_rfl
theorem fsInfo : (Try.prog.info? 55).map (·.size) = some 2 := by kernel_rfl
/-- 'make([]stripePiece, n)': in the next block. -/
theorem wpList_make_pcs {w : World} {ops : Array Oper} {rest : List Oper} {o : Oper} {a : Act} {Q : Exit → Act → World → Prop} (hg : o.guard = none) (l c : Operand) (hop : o.op = Op.makeSlice 53 l c)
    (base : Nat) (L C : Int) (n : Nat) (hl : a.eval l = .int .i64 L) (hc : a.eval c = .int .i64 C) (hL : L = (n : Int)) (hC : C = (n : Int)) (hn : n ≤ 1048576) (hb : base ≤ w.heap.size)
    (h : ∀ w', w'.ownsRow base 70 1 (.slice (some ⟨w.heap.size, 0, none⟩) n n) n (List.replicate n .nilIface) → w.grownBy w' none → wpList Try.prog ops Q rest (a.put o.dst (.slice (some ⟨w.heap.size, 0, none⟩) n n)) w') : wpList Try.prog ops Q (o :: rest) a w := by
  obtain ⟨i0, hi, hz0, hz1, hz2⟩ := info_parts infoPc
  refine wpList_make_full w hg l c _ hop base 70 i0 .nilIface 1 Try.underlying53 hi hz0 hz1 _ _ L C n hl hc hL hC (by rw [hz2]; omega) (by unfold maxLen; omega) hb ?_
  intro w' ho hg'
  refine h w' ?_ hg'
  have e : (madeCells (Value.nilIface).cells (n * 1)).toList = List.replicate n Value.nilIface := by
    rw [Nat.mul_one]; exact toList_madeCells_one _ n
  rw [e] at ho
  exact ho
/-- What is laid so far. -/
def cpI (vs : List Value) (k : Nat) : List Value := vs.take k ++ List.replicate (vs.length - k) .nilIface
theorem cpI_length (vs : List Value) (k : Nat) (h : k ≤ vs.length) : (cpI vs k).length = vs.length := by simp [cpI]; omega
theorem cpI_step (vs : List Value) (k : Nat) (h : k < vs.length) : (cpI vs k).set k (vs.getD k .nilIface) = cpI vs (k + 1) := by
  unfold cpI
  have e : vs.length - k = (vs.length - (k + 1)) + 1 := by omega
  rw [e, List.replicate_succ, List.set_append_right _ _ (by simp; omega), List.take_succ_eq_append_getElem h]
  have e2 : k - (vs.take k).length = 0 := by simp; omega
  rw [e2, List.set_cons_zero, List.append_assoc, List.getD_eq_getElem?_getD, List.getElem?_eq_getElem h]
  rfl
theorem cpI_end (vs : List Value) : cpI vs vs.length = vs := by simp [cpI]
theorem cpI_zero (vs : List Value) : cpI vs 0 = List.replicate vs.length .nilIface := by simp [cpI]
/-- A row of the call's own, of any type. -/
def TVals (v : Value) (n : Nat) (e : TypeId) (xs : List Value) : Tg := fun lo hi w => w.ownsRow lo e 1 v n xs ∧ ∀ k, v.ownBlock = some k → k < hi
theorem TVals.st (v : Value) (n : Nat) (e : TypeId) (xs : List Value) : (TVals v n e xs).st := fun lo hi a b w w' h hc hd => ⟨ownsRow_chg h.1 h.2 hc hd, h.2⟩
theorem Hand.stored {W w : World} {L : List Tg} {e : TypeId} {g n cap : Nat} {xs : List Value} (h : Hand W w L) (i : Nat) (hi : L[i]? = some (TVals (.slice (some ⟨g, 0, none⟩) n cap) n e xs)) (k : Nat) (hk : k < n) (v : Value) :
    Hand W (w.setCell ⟨g, k, none⟩ v) (L.set i (TVals (.slice (some ⟨g, 0, none⟩) n cap) n e (xs.set k v))) ∧ w.frozen? ⟨g, k, none⟩ = false ∧ ∃ old, w.cell? ⟨g, k, none⟩ = some old := by
  obtain ⟨lo, hi', ⟨o, t⟩, hb, ht, put⟩ := h.open i hi
  have hl : xs.length = n := by have := o.1; simpa using this
  refine ⟨put _ _ (TVals.st _ _ _ _) ⟨(o.stored k v).1, t⟩ (Chg.ofSetCell w g k v (row_low o g rfl) (t g rfl)), o.frozenAt k, ?_⟩
  rw [o.cellAt k (by omega)]
  exact ⟨_, List.getElem?_eq_getElem (by omega)⟩
theorem results_found {fn : Func} {p : Tmp} (hf : fn.results = #[.cell p 55]) (tmps : Array Value) (w : World) (g : Nat) (x y : Value) (fr : Nat × Nat) (hp : tmps.getD p undef = .pointer (some ⟨g, 0, none⟩))
    (hg : w.heap[g]? = some (.cells #[x, y] 55 fr)) : (results fn tmps).run Try.prog w = .ok (.agg #[x, y]) w :=
  results_cell_row hf tmps w g _ _ fr _ hp hg Try.underlying55 rfl fsInfo
theorem pv_iface (x : Pc) : ∃ t y, pv x = .iface t y := by
  cases x with
  | none => exact ⟨_, _, rfl⟩
  | some y => exact ⟨_, _, rfl⟩
/-- What the five sectors from A on tell. -/
def skL (P H : List ByteArray) (B : List Bool) (least : Int) (A : Nat) : List Pc := (List.range 5).map fun k => sk P H B least (A + k)
theorem skL_length (P H : List ByteArray) (B : List Bool) (least : Int) (A : Nat) : (skL P H B least A).length = 5 := by simp [skL]
theorem skL_get (P H : List ByteArray) (B : List Bool) (least : Int) (A k : Nat) (h : k < 5) : (skL P H B least A).getD k none = sk P H B least (A + k) := by simp [skL, List.getD_eq_getElem?_getD, h]
theorem skL_ok (P H : List ByteArray) (B : List Bool) (least : Int) (A : Nat) : ∀ k, okP ((skL P H B least A).getD k none) := by
  intro k
  by_cases h : k < 5
  · rw [skL_get _ _ _ _ _ _ h]
    exact sk_ok _ _ _ _ _
  · intro y hy
    rw [List.getD_eq_getElem?_getD, List.getElem?_eq_none (by rw [skL_length]; omega)] at hy
    simp at hy

set_option maxRecDepth 100000 in
set_option maxHeartbeats 1600000 in
theorem findStripe_calls (p h b : Value) (P H : List ByteArray) (B : List Bool) (A : Nat) (least : Int) (w : World) (gk : gkP P H B) (hA : A + 5 ≤ P.length) (hp : RdT w p P) (hh : RdT w h H) (hb : RdZ w b B) :
    Calls Try.prog 26 #[.agg #[p, h, b], .int .i64 (A : Int), .int .i64 least] w fun e w' => ∃ v, e = .returned (.agg #[v, .int .i64 (rtE ((skL P H B least A).map epo) 5)]) ∧ OwnP w' w.heap.size v (skL P H B least A) ∧ Below w.heap.size w w' := by
  have RP := hide hp
  have RH := hide hh
  have RB := hide hb
  have GK := hide gk
  have h24 : P.length ≤ 24 := gk.1.2
  obtain ⟨xs, hxs⟩ : ∃ xs, xs = skL P H B least A := ⟨_, rfl⟩
  have xl : xs.length = 5 := by rw [hxs, skL_length]
  have FP : Hid (∀ k : Nat, k < 5 → ∀ W, RdT W p P → RdT W h H → RdZ W b B → Calls Try.prog 39 #[.agg #[p, h, b], .int .i64 ((A : Int) + (k : Int)), .int .i64 least] W fun e w' => e = .returned ((xs.map pv).getD k .nilIface) ∧ Below W.heap.size W w') := by
    show ∀ k : Nat, _
    intro k hk W h1 h2 h3
    have e1 : (xs.map pv).getD k .nilIface = pv (sk P H B least (A + k)) := by
      rw [← skL_get P H B least A k hk, ← hxs, List.getD_eq_getElem?_getD, List.getD_eq_getElem?_getD, List.getElem?_map, List.getElem?_eq_getElem (by omega)]
      rfl
    rw [e1, show ((A : Int) + (k : Int)) = ((A + k : Nat) : Int) by omega]
    exact findPiece_calls p h b P H B (A + k) least W GK.out (by omega) h1 h2 h3
  have RT : Hid (∀ W v, RdP W v xs → Calls Try.prog 40 #[v] W fun e w' => e = .returned (.int .i64 (rtE (xs.map epo) 5)) ∧ Below W.heap.size W w') := by
    show ∀ W v, _
    intro W v hv
    have := rightEpoch_calls v xs W hv (by rw [hxs]; exact skL_ok _ _ _ _ _) (by omega)
    rw [xl] at this
    exact this
  rw [← hxs]
  clear hxs
  generalize rtE (xs.map epo) 5 = rt at RT
  have XL := hide xl
  have VL : Hid ((xs.map pv).length = 5) := by show _ = _; rw [List.length_map]; exact xl
  have A0 := hide (((Hand.start w).box #[p, h, b] 32).box #[.slice none 0 0, .int .i64 0] 55)
  clear gk hp hh hb xl
  go_enter Try.func26, Try.ntmps26
  go_wp2_with (at_make; refine wpList_make_pcs rfl _ _ rfl _ _ _ 5 rfl rfl (by omega) (by omega) (by omega) (Nat.le_refl _) ?_)
  intro w0 ho0 hg0
  have A1 : Hid (Hand w w0 [TVals (.slice (some ⟨w.heap.size + 1 + 1, 0, none⟩) 5 5) 5 70 (List.replicate 5 .nilIface), TBox (w.heap.size + 1) #[.slice none 0 0, .int .i64 0] 55, TBox w.heap.size #[p, h, b] 32]) := by
    show Hand _ _ _
    have := A0.out.add (t := TVals (.slice (some ⟨w.heap.size + 1 + 1, 0, none⟩) 5 5) 5 70 (List.replicate 5 .nilIface)) ((Below.refl _ _).grown hg0 (Nat.le_refl _) (fun k h => by cases h)) (TVals.st _ _ _ _) ⟨by simpa using ho0, fun k hk => row_top ho0 k hk⟩
    simpa using this
  clear ho0 hg0 A0
  go_wp2
  go_loopw [8, 12] (fun _ vi wr => ∃ k : Nat, k ≤ 5 ∧ vi = .int .i64 k ∧ Hand w wr [TVals (.slice (some ⟨w.heap.size + 1 + 1, 0, none⟩) 5 5) 5 70 (cpI (xs.map pv) k), TBox (w.heap.size + 1) #[.slice none 0 0, .int .i64 0] 55, TBox w.heap.size #[p, h, b] 32]) (fun _ vi _ => 5 - (intOf vi).toNat)
  case atStart =>
    refine ⟨0, Nat.zero_le _, rfl, ?_⟩
    rw [cpI_zero, VL.out]
    exact A1.out
  case round =>
    obtain ⟨k, hk, rfl, hH⟩ := hrel
    have AH := hide hH
    clear hH
    by_cases hlt : k < 5
    · have hlt' : (k : Int) < 5 := by omega
      obtain ⟨c0, c1, c2⟩ := (AH.out.atBox 2 rfl).c3
      have C := hide (FP.out k hlt)
      have STP := hide (cpI_step (xs.map pv) k (by rw [VL.out]; exact hlt))
      obtain ⟨ut, uy, hu⟩ : ∃ t y, (xs.map pv).getD k .nilIface = .iface t y := by
        rw [List.getD_eq_getElem?_getD, List.getElem?_map, List.getElem?_eq_getElem (by rw [XL.out]; exact hlt)]
        exact pv_iface _
      rw [hu] at C STP
      clear hu
      go_wp2_with fail
      refine (C.out _ (RP.out.below AH.out.below) (RH.out.below AH.out.below) (RB.out.below AH.out.below)).mono ?_
      rintro e w1 ⟨rfl, q⟩
      obtain ⟨hH2, hfz, old, hold⟩ := (AH.out.step q).stored 0 rfl k hlt (.iface ut uy)
      have A2 := hide hH2
      clear q c0 c1 c2 hH2
      go_wp2
      go_roundw
      case rel =>
        refine ⟨k + 1, by omega, by go_num, ?_⟩
        have := A2.out
        rw [STP.out] at this
        exact this
      case measure => simp [intOf]; omega
    · obtain rfl : k = 5 := by omega
      have AH2 : Hid (Hand w wr [TVals (.slice (some ⟨w.heap.size + 1 + 1, 0, none⟩) 5 5) 5 70 (xs.map pv), TBox (w.heap.size + 1) #[.slice none 0 0, .int .i64 0] 55, TBox w.heap.size #[p, h, b] 32]) := by
        have := AH.out
        have e := cpI_end (xs.map pv)
        rw [VL.out] at e
        rw [e] at this
        exact this
      clear AH
      obtain ⟨lo, hi, ⟨o, tp⟩⟩ := AH2.out.get 0 rfl
      have R5 : Hid (RdP wr (.slice (some ⟨w.heap.size + 1 + 1, 0, none⟩) 5 5) xs) := by
        show RdP _ _ _
        apply OwnP.rd (base := lo)
        show World.ownsRow _ _ _ _ _ xs.length _
        rw [XL.out]
        exact o
      clear o tp
      go_wp2_with fail
      refine (RT.out _ _ R5.out).mono ?_
      rintro e w1 ⟨rfl, q⟩
      have A3 := hide (AH2.out.step q)
      have hbx := A3.out.atBox 1 rfl
      obtain ⟨c0, c1⟩ : w1.cell? ⟨w.heap.size + 1, 0, none⟩ = some (.slice none 0 0) ∧ w1.cell? ⟨w.heap.size + 1, 1, none⟩ = some (.int .i64 0) := ⟨hbx.cell 0, hbx.cell 1⟩
      have f0 := hbx.frozen 0
      have f1 := hbx.frozen 1
      have BX := hide hbx
      clear hbx q R5
      obtain ⟨lo, hi, ⟨x1, x2, x3⟩, y1, y2, put⟩ := A3.out.open 1 rfl
      have A4 := hide (put _ (TBox (w.heap.size + 1) #[.slice (some ⟨w.heap.size + 1 + 1, 0, none⟩) 5 5, .int .i64 rt] 55) (TBox.st _ _ _) ⟨x1, x2, by simpa using (x3.set 0 (.slice (some ⟨w.heap.size + 1 + 1, 0, none⟩) 5 5)).set 1 (.int .i64 rt)⟩ ((Chg.ofSetCell _ _ _ _ x1 x2).trans (Chg.ofSetCell _ _ _ _ x1 x2)))
      clear put y1 y2 x1 x2 x3
      go_wp2
      refine bodyPost_ret (results_found rfl _ _ (w.heap.size + 1) _ _ (0, 0) rfl (A4.out.atBox 1 rfl)) rfl ⟨_, rfl, ?_, A4.out.below⟩
      obtain ⟨lo, hi, ⟨o, tp⟩, lw, _⟩ := A4.out.open 0 rfl
      show World.ownsRow _ _ _ _ _ xs.length _
      rw [XL.out]
      exact ownsRow_mono o lw
end Go.Proofs.Ytiojipicincgfaa
