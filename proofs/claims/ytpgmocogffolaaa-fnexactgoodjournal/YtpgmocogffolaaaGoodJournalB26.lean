/-
  What a journal's disk tells: the program's readFrameAt as one, halfOn, call by call. Each contract says what it asks. What a sector tells, by the model: l7Read, call by call. The contract says what it asks. A frame read: the model's ReadFrame and CheckFrame, call by call. No condition but a bound on the text's length.
-/
import Derived.Test.YtpgmocogffolaaaGoodJournalB16
import Derived.Test.YtpgmocogffolaaaGoodJournalB13
import Derived.Test.YtpgmocogffolaaaGoodJournalB6
import Derived.Test.YtpgmocogffolaaaGoodJournalB10
namespace Go.Proofs.Ytpgmocogffolaaa
open Go.RowKit
set_option linter.unusedVariables false
set_option linter.unusedSimpArgs false

theorem readFrameAt_fa (p h b : Value) (P H : List ByteArray) (B : List Bool) (kind A least : Int) (w : World) (gk : gkP P H B) (hA : 0 ≤ A ∧ A < (P.length : Int)) (hp : RdT w p P) (hh : RdT w h H) (hb : RdZ w b B) :
    Calls Try.prog 68 #[.agg #[p, h, b], .int .i64 kind, .int .i64 A, .int .i64 least] w fun e w' => e = .returned (frA (fa P H B kind A least)) ∧ Below w.heap.size w w' := by
  unfold fa
  by_cases hB : B.getD A.toNat false = true
  · rw [if_pos hB]
    exact readFrameAt_no p h b P H B kind A least w (fun h => absurd h.2.2 (by rw [hB]; simp)) hp hh hb
  · rw [if_neg hB]
    exact readFrameAt_yes p h b P H B kind A least w ⟨gk, hA, by simpa using hB⟩ hp hh hb
theorem fa_small (P H : List ByteArray) (B : List Bool) (kind A least : Int) : (fa P H B kind A least).B.size ≤ 16 := by
  unfold fa
  split
  · exact Nat.zero_le _
  · exact ckR_small _ _ _ _
/-- Both sectors of a half tell that Epoch, and the bytes of a state. -/
def hfP (P H : List ByteArray) (B : List Bool) (e : Int) : Prop :=
  ((fa2 P H B e 0).ok = true ∧ (fa2 P H B e 0).E = e) ∧ ((fa2 P H B e 1).ok = true ∧ (fa2 P H B e 1).E = e) ∧ (fa2 P H B e 0).B.size = 6 ∧ (fa2 P H B e 1).B.size = 6
def hfV (P H : List ByteArray) (B : List Bool) (e : Int) : List Int := jsV [(fa2 P H B e 0).B, (fa2 P H B e 1).B]
/-- The bodies so far, and empty texts. -/
def bdT (P H : List ByteArray) (B : List Bool) (e : Int) : Nat → List ByteArray
  | 0 => [⟨#[]⟩, ⟨#[]⟩]
  | k + 1 => (bdT P H B e k).set k (fa2 P H B e k).B
theorem bdT_len (P H : List ByteArray) (B : List Bool) (e : Int) : ∀ k, (bdT P H B e k).length = 2
  | 0 => rfl
  | k + 1 => by rw [bdT, List.length_set, bdT_len]
theorem bdT_two (P H : List ByteArray) (B : List Bool) (e : Int) : bdT P H B e 2 = [(fa2 P H B e 0).B, (fa2 P H B e 1).B] := rfl
theorem bdT_small (P H : List ByteArray) (B : List Bool) (e : Int) : ∀ k, ∀ s ∈ bdT P H B e k, s.size ≤ 16
  | 0 => fun s hs => by
    simp [bdT] at hs
    subst hs
    exact Nat.zero_le _
  | k + 1 => fun s hs => by
    rw [bdT] at hs
    rcases List.mem_or_eq_of_mem_set hs with h | h
    · exact bdT_small P H B e k s h
    · rw [h]; exact fa_small _ _ _ _ _ _
set_option maxRecDepth 100000 in
set_option maxHeartbeats 3200000 in
theorem halfOn_calls (p h b : Value) (P H : List ByteArray) (B : List Bool) (e : Int) (ok : Bool) (w : World) (gk : gkP P H B) (h5 : P.length = 5) (he : 0 ≤ e ∧ e ≤ 60000) (hp : RdT w p P) (hh : RdT w h H) (hb : RdZ w b B) (hok : ok = true ↔ hfP P H B e) :
    Calls Try.prog 69 #[.agg #[p, h, b], .int .i64 e] w fun x w' => ∃ v', x = .returned (.tuple #[v', .bool ok]) ∧ Own w' w.heap.size v' (bif ok then hfV P H B e else []) ∧ Below w.heap.size w w' := by
  obtain ⟨ap, cp, rfl, _, _⟩ := hp.sl
  obtain ⟨ah, ch, rfl, _, _⟩ := hh.sl
  obtain ⟨ab, cb, rfl, _, _⟩ := hb.sl
  have b0 := below_box w (.cells #[.slice ap P.length cp, .slice ah H.length ch, .slice ab B.length cb] 30)
  have A0 := hide ((Hand.start w).box #[.slice ap P.length cp, .slice ah H.length ch, .slice ab B.length cb] 30)
  have RP := hide hp
  have RH := hide hh
  have RB := hide hb
  have HO := hide (fun W => halfOf_calls e true W ⟨fun _ => he, fun _ => rfl⟩)
  change Hid (∀ W, Calls _ _ _ _ fun x w' => x = .returned (.tuple #[.int .i64 (hlf e), .bool true]) ∧ _) at HO
  obtain ⟨hf, ehf, h13⟩ : ∃ hf : Nat, hlf e = (hf : Int) ∧ (hf = 1 ∨ hf = 3) := ⟨(hlf e).toNat, by have := hlf_in (e := e); omega, by have := hlf_in (e := e); omega⟩
  have RF : Hid (∀ k : Nat, k < 2 → ∀ W, RdT W (.slice ap P.length cp) P → RdT W (.slice ah H.length ch) H → RdZ W (.slice ab B.length cb) B → Calls Try.prog 68 #[.agg #[.slice ap P.length cp, .slice ah H.length ch, .slice ab B.length cb], .int .i64 3, .int .i64 ((hf : Int) + (k : Int)), .int .i64 e] W fun x w' => x = .returned (frA (fa2 P H B e k)) ∧ Below W.heap.size W w') := by
    show ∀ k : Nat, _
    intro k hk W q1 q2 q3
    have r := readFrameAt_fa (.slice ap P.length cp) (.slice ah H.length ch) (.slice ab B.length cb) P H B 3 (hlf e + (k : Int)) e W gk ⟨by omega, by omega⟩ q1 q2 q3
    rw [show fa P H B 3 (hlf e + (k : Int)) e = fa2 P H B e k from rfl, ehf] at r
    exact r
  have HOK := hide hok
  rw [ehf] at HO
  have EF := hide ehf
  have BL := hide (bdT_len P H B e)
  have BSm := hide (bdT_small P H B e)
  obtain ⟨t, ht⟩ := bol_exJ (jfP (bdT P H B e 2))
  have SF := hide (fun v W q => stateFrom_calls v (bdT P H B e 2) t W q ht)
  have HT : Hid (t = true ↔ ((fa2 P H B e 0).B.size = 6 ∧ (fa2 P H B e 1).B.size = 6)) := by
    refine ht.trans ?_
    rw [bdT_two]
    constructor
    · intro h
      exact ⟨h.2 0 (by simp), h.2 1 (by simp)⟩
    · intro h
      refine ⟨rfl, fun i hi => ?_⟩
      have : i = 0 ∨ i = 1 := by simp at hi; omega
      rcases this with rfl | rfl
      · exact h.1
      · exact h.2
  clear ht
  clear hp hh hb hok h5 gk ehf he b0 EF
  obtain ⟨x0, x1, x2⟩ := (A0.out.atBox 0 rfl).c3
  go_enter Try.func69, Try.ntmps69
  go_wp2_with fail
  refine (HO.out _).mono ?_
  rintro x w1 ⟨rfl, rfl⟩
  go_wp2_with (at_make; refine wpList_make_texts rfl _ _ rfl (w.heap.size + 1) _ _ 2 rfl rfl (by omega) (by omega) (by omega) (by simp) ?_)
  intro w2 o2 g2
  have X2 := hide ((A0.out.step (grown_none g2)).atBox 0 rfl)
  have B2 := hide (A0.out.step (grown_none g2)).below
  have O2 : Hid (w2.ownsRow (w.heap.size + 1) 9 1 (.slice (some ⟨w.heap.size + 1, 0, none⟩) 2 2) 2 ((bdT P H B e 0).map Value.string)) := by
    show World.ownsRow _ _ _ _ _ _ _
    simpa [OwnT, bdT] using o2
  clear o2 g2 A0 x0 x1 x2
  go_wp2
  go_loopw [20] (fun vk wr => ∃ k : Nat, vk = .int .i64 k ∧ k ≤ 2 ∧ wr.ownsRow (w.heap.size + 1) 9 1 (.slice (some ⟨w.heap.size + 1, 0, none⟩) 2 2) 2 ((bdT P H B e k).map Value.string) ∧ BoxAt wr w.heap.size #[.slice ap P.length cp, .slice ah H.length ch, .slice ab B.length cb] 30 ∧ Below w.heap.size w wr ∧ ∀ j, j < k → (fa2 P H B e j).ok = true ∧ (fa2 P H B e j).E = e) (fun vk _ => 2 - (intOf vk).toNat)
  case atStart => exact ⟨0, rfl, by omega, O2.out, X2.out, B2.out, fun j hj => by omega⟩
  case round =>
    obtain ⟨k, rfl, hk, ho, hX, hW, hall⟩ := hrel
    have O := hide ho
    have XX := hide hX
    have WW := hide hW
    have AL := hide hall
    have gl : w.heap.size + 1 < wr.heap.size := (World.ownsRow.lt ho (w.heap.size + 1) rfl).2
    clear ho hX hW hall O2 X2 B2
    by_cases hlt : k < 2
    · have hlt' : (k : Int) < 2 := by omega
      obtain ⟨x0, x1, x2⟩ := XX.out.c3
      have CK := hide (RF.out k hlt)
      have FK : Hid (hfP P H B e → (fa2 P H B e k).ok = true ∧ (fa2 P H B e k).E = e) := fun h => by
        have : k = 0 ∨ k = 1 := by omega
        rcases this with rfl | rfl
        · exact h.1
        · exact h.2.1
      have AK : Hid ((fa2 P H B e k).ok = true ∧ (fa2 P H B e k).E = e → ∀ j, j < k + 1 → (fa2 P H B e j).ok = true ∧ (fa2 P H B e j).E = e) := fun h j hj => by
        by_cases ej : j = k
        · rw [ej]; exact h
        · exact AL.out j (by omega)
      have BK : Hid (bdT P H B e (k + 1) = (bdT P H B e k).set k (fa2 P H B e k).B) := rfl
      generalize fa2 P H B e k = c at CK FK AK BK
      rcases c with ⟨K', A', E', bo, code, okk⟩
      simp only [frA] at CK FK AK BK
      have hwb : hf ≤ 3 := by omega
      go_wp2_with fail
      refine (CK.out _ (RP.out.below WW.out) (RH.out.below WW.out) (RB.out.below WW.out)).mono ?_
      rintro x w3 ⟨rfl, q⟩
      have bq := q.trans ((below_box w3 (.cells (frC K' A' E' bo) 69)).mono q.size)
      have N3 := hide (BoxAt.new w3 (frC K' A' E' bo) 69)
      have X3 := hide (XX.out.below bq)
      have W3 := hide (WW.out.trans (bq.mono WW.out.size))
      have O3 := hide (ownsRow_below O.out bq)
      have gl3 : wr.heap.size ≤ (w3.alloc (.cells (frC K' A' E' bo) 69)).heap.size := bq.size
      clear q bq XX WW O CK x0 x1 x2
      obtain ⟨z0, z1, z2, z3⟩ := N3.out.c4
      cases okk with
      | false =>
        obtain rfl : ok = false := by cases ok with | false => rfl | true => have := (FK.out (HOK.out.1 rfl)).1; simp at this
        go_wp2
        go_ret2
        exact ⟨_, rfl, World.ownsRow_nil _ _ _ _, W3.out⟩
      | true =>
        by_cases hE : E' = e
        · have HE := hide hE
          subst hE
          have hEb : (E' != E') = false := by simp
          have st := O3.out.stored k (.string bo)
          rw [← List.map_set, ← BK.out] at st
          have ST := hide st.1
          have c1 := O3.out.cellAt k hlt
          obtain ⟨old, c2⟩ : ∃ old, (w3.alloc (.cells (frC K' A' E' bo) 69)).cell? ⟨w.heap.size + 1, k, none⟩ = some old := by
            rw [c1]
            exact ⟨_, List.getElem?_eq_getElem (by rw [List.length_map, BL.out]; exact hlt)⟩
          have c3 := O3.out.frozenAt k
          have X4 := hide (X3.out.chg (Chg.ofSetCell (lo := w.heap.size + 1) (hi := w.heap.size + 2) _ (w.heap.size + 1) k (.string bo) (Nat.le_refl _) (by omega)) (.inl (by omega)))
          have W4 := hide (W3.out.grown st.2 W3.out.size (fun j hj => by cases hj; omega))
          clear st c1 O3 X3 W3 N3
          go_wp2
          go_roundw
          case rel => exact ⟨k + 1, by go_num, by omega, ST.out, X4.out, W4.out, AK.out (by simp)⟩
          case measure => simp [intOf]; omega
        · have hEb : (E' != e) = true := by simpa using hE
          obtain rfl : ok = false := by cases ok with | false => rfl | true => exact absurd (FK.out (HOK.out.1 rfl)).2 hE
          go_wp2
          go_ret2
          exact ⟨_, rfl, World.ownsRow_nil _ _ _ _, W3.out⟩
    · obtain rfl : k = 2 := by omega
      have oo : OwnT wr (w.heap.size + 1) (.slice (some ⟨w.heap.size + 1, 0, none⟩) 2 2) (bdT P H B e 2) := O.out
      have RT := hide (OwnT.rd oo (fun s hs => Nat.le_trans (BSm.out 2 s hs) (by unfold maxLen; omega)))
      have EQ : ok = t := by
        have h1 := HOK.out
        have h2 := HT.out
        have a0 := AL.out 0 (by omega)
        have a1 := AL.out 1 (by omega)
        have h3 : hfP P H B e ↔ ((fa2 P H B e 0).B.size = 6 ∧ (fa2 P H B e 1).B.size = 6) := ⟨fun h => h.2.2, fun h => ⟨a0, a1, h⟩⟩
        cases ok with
        | true => exact (h2.2 (h3.1 (h1.1 rfl))).symm
        | false =>
          cases t with
          | false => rfl
          | true => have := h1.2 (h3.2 (h2.1 rfl)); simp at this
      subst EQ
      clear oo O XX
      go_wp2_with fail
      refine (SF.out _ _ RT.out).mono ?_
      rintro x w4 ⟨v4, rfl, o4, b4⟩
      have O4 := hide (ownsRow_mono o4 WW.out.size)
      have B4 := hide (WW.out.trans (b4.mono WW.out.size))
      clear o4 b4
      go_wp2
      go_ret2
      exact ⟨_, rfl, O4.out, B4.out⟩

theorem rcv_some {P H : List ByteArray} {B : List Bool} (h1 : (fa P H B 4 0 0).ok = true) (h2 : hfP P H B (fa P H B 4 0 0).E) : rcv P H B = some (hfV P H B (fa P H B 4 0 0).E, (fa P H B 4 0 0).E) := by
  unfold rcv
  rw [if_pos h1]
  exact if_pos h2
theorem rcv_none1 {P H : List ByteArray} {B : List Bool} (h1 : ¬ (fa P H B 4 0 0).ok = true) : rcv P H B = none := by
  unfold rcv
  rw [if_neg h1]
theorem rcv_none2 {P H : List ByteArray} {B : List Bool} (h1 : (fa P H B 4 0 0).ok = true) (h2 : ¬ hfP P H B (fa P H B 4 0 0).E) : rcv P H B = none := by
  unfold rcv
  rw [if_pos h1]
  exact if_neg h2
/-- What RecoverFrom tells, of any disk. -/
def rcG (t : Bool) (P H : List ByteArray) (B : List Bool) : Option (List Int × Int) := bif t then rcv P H B else none
set_option maxRecDepth 100000 in
set_option maxHeartbeats 3200000 in
theorem recoverFrom0_calls (p h b : Value) (P H : List ByteArray) (B : List Bool) (w : World) (gk : gkP P H B) (h5 : P.length = 5) (hp : RdT w p P) (hh : RdT w h H) (hb : RdZ w b B) :
    Calls Try.prog 18 #[.agg #[p, h, b]] w fun x w' => ∃ v', x = .returned (.tuple #[v', .int .i64 (rcE (rcv P H B)), .bool (rcB (rcv P H B))]) ∧ Own w' w.heap.size v' (rcV (rcv P H B)) ∧ Below w.heap.size w w' := by
  obtain ⟨ap, cp, rfl, _, _⟩ := hp.sl
  obtain ⟨ah, ch, rfl, _, _⟩ := hh.sl
  obtain ⟨ab, cb, rfl, _, _⟩ := hb.sl
  have A0 := hide ((Hand.start w).box #[.slice ap P.length cp, .slice ah H.length ch, .slice ab B.length cb] 30)
  have RP := hide hp
  have RH := hide hh
  have RB := hide hb
  have RF := hide (fun W q1 q2 q3 => readFrameAt_fa (.slice ap P.length cp) (.slice ah H.length ch) (.slice ab B.length cb) P H B 4 0 0 W gk ⟨by omega, by omega⟩ q1 q2 q3)
  have EB := fun (h : (fa P H B 4 0 0).ok = true) => fa_E h
  obtain ⟨t, ht⟩ := bol_exJ (hfP P H B (fa P H B 4 0 0).E)
  have HF := hide (fun (h : (fa P H B 4 0 0).ok = true) W q1 q2 q3 => halfOn_calls (.slice ap P.length cp) (.slice ah H.length ch) (.slice ab B.length cb) P H B (fa P H B 4 0 0).E t W gk h5 (EB h) q1 q2 q3 ht)
  have N1 := hide (rcv_none1 (P := P) (H := H) (B := B))
  have N2 := hide (fun h1 (h2 : t = false) => rcv_none2 (P := P) (H := H) (B := B) h1 (fun h => by rw [ht.2 h] at h2; cases h2))
  have S2 := hide (fun h1 (h2 : t = true) => rcv_some (P := P) (H := H) (B := B) h1 (ht.1 h2))
  have h5' : (P.length : Int) = 5 := by omega
  have h5b : ((P.length : Int) != 5) = false := by simp; omega
  clear hp hh hb gk ht EB
  generalize fa P H B 4 0 0 = c at RF HF N1 N2 S2
  rcases c with ⟨K', A', E', bo, code, okk⟩
  simp only [frA] at RF HF N1 N2 S2
  have H5 := hide h5
  clear h5
  obtain ⟨x0, x1, x2⟩ := (A0.out.atBox 0 rfl).c3
  cases okk with
  | false =>
    have e := N1.out (by simp)
    rw [e]
    clear e N1 N2 S2 HF
    show Calls _ _ _ _ fun x w' => ∃ v', x = .returned (.tuple #[v', .int .i64 0, .bool false]) ∧ Own w' w.heap.size v' [] ∧ _
    go_enter Try.func18, Try.ntmps18
    go_wp2_with fail
    refine (RF.out _ (RP.out.below A0.out.below) (RH.out.below A0.out.below) (RB.out.below A0.out.below)).mono ?_
    rintro x w1 ⟨rfl, q⟩
    have A1 := hide ((A0.out.step q).box (frC K' A' E' bo) 69)
    clear q
    go_wp2
    go_ret3
    exact ⟨_, rfl, World.ownsRow_nil _ _ _ _, A1.out.below⟩
  | true =>
    cases t with
    | false =>
      have e := N2.out (by simp) rfl
      rw [e]
      clear e N1 N2 S2
      show Calls _ _ _ _ fun x w' => ∃ v', x = .returned (.tuple #[v', .int .i64 0, .bool false]) ∧ Own w' w.heap.size v' [] ∧ _
      go_enter Try.func18, Try.ntmps18
      go_wp2_with fail
      refine (RF.out _ (RP.out.below A0.out.below) (RH.out.below A0.out.below) (RB.out.below A0.out.below)).mono ?_
      rintro x w1 ⟨rfl, q⟩
      have A1 := hide ((A0.out.step q).box (frC K' A' E' bo) 69)
      clear q A0 x0 x1 x2
      obtain ⟨z0, z1, z2, z3⟩ := (A1.out.atBox 0 rfl).c4
      obtain ⟨x0, x1, x2⟩ := (A1.out.atBox 1 rfl).c3
      go_wp2_with fail
      refine (HF.out (by simp) _ (RP.out.below A1.out.below) (RH.out.below A1.out.below) (RB.out.below A1.out.below)).mono ?_
      rintro x w2 ⟨v2, rfl, o2, q⟩
      have A2 := hide (A1.out.step q)
      clear q o2
      go_wp2
      go_ret3
      exact ⟨_, rfl, World.ownsRow_nil _ _ _ _, A2.out.below⟩
    | true =>
      have e := S2.out (by simp) rfl
      rw [e]
      clear e N1 N2 S2
      show Calls _ _ _ _ fun x w' => ∃ v', x = .returned (.tuple #[v', .int .i64 E', .bool true]) ∧ Own w' w.heap.size v' (hfV P H B E') ∧ _
      go_enter Try.func18, Try.ntmps18
      go_wp2_with fail
      refine (RF.out _ (RP.out.below A0.out.below) (RH.out.below A0.out.below) (RB.out.below A0.out.below)).mono ?_
      rintro x w1 ⟨rfl, q⟩
      have A1 := hide ((A0.out.step q).box (frC K' A' E' bo) 69)
      have S1 : w.heap.size ≤ (w1.alloc (.cells (frC K' A' E' bo) 69)).heap.size := A1.out.below.size
      clear q A0 x0 x1 x2
      obtain ⟨z0, z1, z2, z3⟩ := (A1.out.atBox 0 rfl).c4
      obtain ⟨x0, x1, x2⟩ := (A1.out.atBox 1 rfl).c3
      go_wp2_with fail
      refine (HF.out (by simp) _ (RP.out.below A1.out.below) (RH.out.below A1.out.below) (RB.out.below A1.out.below)).mono ?_
      rintro x w2 ⟨v2, rfl, o2, q⟩
      have A2 := hide (A1.out.step q)
      have O2 := hide (ownsRow_mono o2 S1)
      clear q o2 A1 z0 z1 z2 z3 x0 x1 x2
      obtain ⟨z0, z1, z2, z3⟩ := (A2.out.atBox 0 rfl).c4
      go_wp2
      go_quiet (fail)
      go_wp2
      go_ret3
      exact ⟨_, rfl, ownsRow_below O2.out (below_drewN' _), A2.out.below.trans ((below_drewN' _).mono A2.out.below.size)⟩

theorem recoverFrom_good (p h b : Value) (P H : List ByteArray) (B : List Bool) (w : World) (gk : gkP P H B) (h5 : P.length = 5) (hp : RdT w p P) (hh : RdT w h H) (hb : RdZ w b B) :
    Calls Try.prog 18 #[.agg #[p, h, b]] w fun x w' => ∃ v', x = .returned (.tuple #[v', .int .i64 (rcE (rcv P H B)), .bool (rcB (rcv P H B))]) ∧ Own w' w.heap.size v' (rcV (rcv P H B)) ∧ Below w.heap.size w w' :=
  recoverFrom0_calls p h b P H B w gk h5 hp hh hb
end Go.Proofs.Ytpgmocogffolaaa

namespace Go.Proofs.Ytpgmocogffolaaa
open Go.RowKit
set_option linter.unusedVariables false

set_option maxRecDepth 100000 in
set_option maxHeartbeats 800000 in
theorem l7Read_calls (p h b : Value) (P H : List ByteArray) (B : List Bool) (k : Nat) (w : World) (gk : gkP P H B) (hk : k < P.length) (hp : RdT w p P) (hh : RdT w h H) (hb : RdZ w b B) :
    Calls Try.prog 114 #[.agg #[p, h, b], .int .i64 (k : Int)] w fun e w' => e = .returned (.tuple #[.string (if B.getD k false = true then ⟨#[]⟩ else rsT P H k), .bool (!B.getD k false)]) ∧ Below w.heap.size w w' := by
  have h24 : P.length ≤ 24 := gk.1.2
  have L2 := hide gk.2.1
  have L3 := hide gk.2.2.1
  have hbx := below_box w (.cells #[p, h, b] 30)
  have HB := hide hbx
  obtain ⟨ap, cp, rfl, mp, _⟩ := hp.sl
  obtain ⟨ah, ch, rfl, mh, _⟩ := hh.sl
  obtain ⟨ab, cb, rfl, mb, _⟩ := hb.sl
  obtain ⟨gb, ob, rfl, hcb, _⟩ := (hb.below hbx).cell k (by rw [L3.out]; exact hk)
  obtain ⟨gh, oh, rfl, hch, _⟩ := (hh.below hbx).cell k (by rw [L2.out]; exact hk)
  obtain ⟨gp, op, rfl, hcp, _⟩ := (hp.below hbx).cell k hk
  have i1 : (k : Int) < (B.length : Int) := by rw [L3.out]; omega
  have i2 : (k : Int) < (H.length : Int) := by rw [L2.out]; omega
  have i3 : (k : Int) < (P.length : Int) := by omega
  unfold rsT
  clear hp hh hb gk mp mh mb L2 L3 hbx
  generalize B.getD k false = y at *
  generalize H.getD k ⟨#[]⟩ = z at *
  generalize P.getD k ⟨#[]⟩ = u at *
  cases y with
  | true =>
    rw [if_pos rfl]
    go_enter Try.func114, Try.ntmps114
    go_wp2
    go_ret2
    exact ⟨rfl, HB.out⟩
  | false =>
    rw [if_neg (by simp)]
    by_cases hz : z.size = 0
    · have hzz := size_zero hz
      subst hzz
      rw [if_pos hz]
      go_enter Try.func114, Try.ntmps114
      go_wp2
      go_ret2
      exact ⟨rfl, HB.out⟩
    · rw [if_neg hz]
      obtain ⟨zz1, zz2⟩ := toList_ne (z := z) (fun e => hz (by rw [e]; rfl))
      clear hz
      go_enter Try.func114, Try.ntmps114
      go_wp2
      go_ret2
      exact ⟨rfl, HB.out⟩
end Go.Proofs.Ytpgmocogffolaaa

namespace Go.Proofs.Ytpgmocogffolaaa
open Go.RowKit
set_option linter.unusedVariables false

theorem val_parts (l : List Nat) (h : 6 ≤ l.length) : valB (l.take 1) = kindOf l ∧ valB ((l.drop 1).take 2) = atOf l ∧ valB ((l.drop 3).take 2) = epochOf l := by
  match l, h with
  | a :: b :: c :: d :: e :: f :: r, _ => simp [valB, kindOf, atOf, epochOf]

theorem rw_three (s : ByteArray) (hs : s.size = 28) (h16 : longOf (bs s) ≤ 16) :
    (¬ goodF (kindOf (bs s)) (atOf (bs s)) (epochOf (bs s)) (ofN (bodyOf (bs s))).size ∧ rwR s = frNo 3) ∨
    (goodF (kindOf (bs s)) (atOf (bs s)) (epochOf (bs s)) (ofN (bodyOf (bs s))).size ∧ ¬ ofN (frB (kindOf (bs s)) (atOf (bs s)) (epochOf (bs s)) (bs (ofN (bodyOf (bs s))))) = s ∧ rwR s = frNo 3) ∨
    (goodF (kindOf (bs s)) (atOf (bs s)) (epochOf (bs s)) (ofN (bodyOf (bs s))).size ∧ ofN (frB (kindOf (bs s)) (atOf (bs s)) (epochOf (bs s)) (bs (ofN (bodyOf (bs s))))) = s ∧ rwR s = ⟨kindOf (bs s), atOf (bs s), epochOf (bs s), ofN (bodyOf (bs s)), 0, true⟩) := by
  have hlen : (bs s).length = 28 := by rw [bs_length]; exact hs
  have hz0 : kindOf (bs s) < 256 := getD_lt (bs_lt s) 0
  have hz1 : (bs s).getD 1 0 < 256 := getD_lt (bs_lt s) 1
  have hz2 : (bs s).getD 2 0 < 256 := getD_lt (bs_lt s) 2
  have hz3 : (bs s).getD 3 0 < 256 := getD_lt (bs_lt s) 3
  have hz4 : (bs s).getD 4 0 < 256 := getD_lt (bs_lt s) 4
  have hA : atOf (bs s) < 65536 := by unfold atOf; omega
  have hE : epochOf (bs s) < 65536 := by unfold epochOf; omega
  have hbl : (bodyOf (bs s)).length = longOf (bs s) := by
    unfold bodyOf
    rw [List.length_take, List.length_drop, hlen]
    omega
  have hbsm : ∀ x ∈ bodyOf (bs s), x < 256 := fun x hx => bs_lt s x (List.mem_of_mem_drop (List.mem_of_mem_take hx))
  have hBs : (ofN (bodyOf (bs s))).size = longOf (bs s) := by rw [ofN_size]; exact hbl
  rw [hBs, bs_ofN hbsm]
  by_cases hg : goodF (kindOf (bs s)) (atOf (bs s)) (epochOf (bs s)) (longOf (bs s))
  · by_cases he : frB (kindOf (bs s)) (atOf (bs s)) (epochOf (bs s)) (bodyOf (bs s)) = bs s
    · right; right
      refine ⟨hg, by rw [he, ofN_bs], if_pos ⟨h16, hg, he⟩⟩
    · right; left
      refine ⟨hg, fun h => he ?_, if_neg (fun h => he h.2.2)⟩
      have h2 := congrArg bs h
      rw [bs_ofN (frB_small hz0 hA hE (by omega) hbsm)] at h2
      exact h2
  · left
    exact ⟨hg, if_neg (fun h => hg h.2.1)⟩

set_option maxRecDepth 100000 in
set_option maxHeartbeats 1600000 in
theorem sReadFrame_calls (s : ByteArray) (w : World) (hsz : s.size ≤ maxLen) :
    Calls Try.prog 50 #[.string s] w fun e w' => e = .returned (.tuple #[.agg #[.int .i64 (rdR s).K, .int .i64 (rdR s).A, .int .i64 (rdR s).E, .string (rdR s).B], .int .i64 (rdR s).code, .bool (rdR s).ok]) ∧ Below w.heap.size w w' := by
  unfold maxLen at hsz
  have B0 := hide (below_box w (.cells #[.int .i64 0, .int .i64 0, .int .i64 0, .string ⟨#[]⟩] 69))
  by_cases h28 : s.size = 28
  case neg =>
    have er : rdR s = frNo 1 := if_neg h28
    have hne : ¬ (s.size : Int) = 28 := by omega
    have hneb : ((s.size : Int) == 28) = false := by simp; omega
    rw [er]
    clear er h28
    go_enter Try.func50, Try.ntmps50
    go_wp2
    (try simp only [Exit.inBlock, Exit.then])
    exact bodyPost_ret (res_frame3 rfl _ _ w.heap.size 0 0 0 ⟨#[]⟩ (0, 0) rfl (heap_alloc_new w _)) rfl ⟨rfl, below_box w _⟩
  have H28 := hide h28
  have h28i : (s.size : Int) = 28 := by omega
  have hlen : (bs s).length = 28 := by rw [bs_length]; exact h28
  have hT : bs (s.extract 0 24) = (bs s).take 24 := bs_take s 24
  have hD : bs (s.extract 24 28) = (bs s).drop 24 := by rw [← h28]; exact bs_drop s 24
  have hts : (s.extract 0 24).size ≤ 1048576 := by rw [← bs_length, hT, List.length_take, hlen]; omega
  have hlt : Crc.on 0 ((bs s).take 24) < 4294967296 := Crc.on_lt (by decide) (mem_take_lt (bs_lt s) 24)
  have C56 : Hid (∀ w', Calls Try.prog 105 #[.int .i64 0, .string (s.extract 0 24)] w' fun e w'' => e = .returned (.int .i64 ((Crc.on 0 ((bs s).take 24) : Nat) : Int)) ∧ w' = w'') := by
    show ∀ w', _
    intro w'
    have := l5On_calls 0 (s.extract 0 24) w' (by decide) hts
    rw [hT] at this
    exact this
  have C55 : Hid (∀ w', Calls Try.prog 104 #[.int .i64 ((Crc.on 0 ((bs s).take 24) : Nat) : Int)] w' fun e w'' => e = .returned (.string (ofN (low4 (Crc.on 0 ((bs s).take 24))))) ∧ Below w'.heap.size w' w'') :=
    fun w' => l6Low_calls _ w' hlt
  have CASES : Hid ((s.extract 24 28 = ofN (low4 (Crc.on 0 ((bs s).take 24))) ∧ rdR s = rwR s) ∨ (¬ s.extract 24 28 = ofN (low4 (Crc.on 0 ((bs s).take 24))) ∧ rdR s = frNo 2)) := by
    show _ ∨ _
    by_cases he : (bs s).drop 24 = low4 (Crc.on 0 ((bs s).take 24))
    · left
      refine ⟨?_, ?_⟩
      · apply bs_inj
        rw [hD, bs_ofN (low4_small _)]
        exact he
      · unfold rdR
        rw [if_pos h28, if_pos he]
        rfl
    · right
      refine ⟨fun h => he ?_, ?_⟩
      · rw [← hD, h, bs_ofN (low4_small _)]
      · unfold rdR
        rw [if_pos h28, if_neg he]
  generalize ofN (low4 (Crc.on 0 ((bs s).take 24))) = Y at C55 CASES
  generalize Crc.on 0 ((bs s).take 24) = n at C55 C56 hlt
  clear hT hts hD
  have FX : Hid (∀ w1 : World, Below (w.alloc (.cells #[.int .i64 0, .int .i64 0, .int .i64 0, .string ⟨#[]⟩] 69)).drew.heap.size (w.alloc (.cells #[.int .i64 0, .int .i64 0, .int .i64 0, .string ⟨#[]⟩] 69)).drew w1 →
      Below w.heap.size w w1 ∧ w.heap.size < w1.heap.size ∧ w1.heap[w.heap.size]? = some (.cells #[.int .i64 0, .int .i64 0, .int .i64 0, .string ⟨#[]⟩] 69 (0, 0))) := by
    show ∀ w1 : World, _
    intro w1 b1
    have b2 : Below (w.alloc (.cells #[.int .i64 0, .int .i64 0, .int .i64 0, .string ⟨#[]⟩] 69)).heap.size (w.alloc (.cells #[.int .i64 0, .int .i64 0, .int .i64 0, .string ⟨#[]⟩] 69)) w1 := (Below.refl _ _).drew.trans b1
    exact ⟨B0.out.trans (b2.mono (by simp)), by have := b2.size; simp at this; omega, box_at b2⟩
  rcases CASES.out with ⟨he, er⟩ | ⟨he, er⟩
  case inr =>
    have hsl : ¬ Y.toList = (s.extract 24 28).toList := fun h => he (toList_inj h.symm)
    have hslb : (Y.toList == (s.extract 24 28).toList) = false := by simpa using hsl
    have ER := hide er
    clear he er CASES
    go_enter Try.func50, Try.ntmps50
    go_wp2
    go_region_held3 (fun _ => True) (trivial) ((first | (go_at_call 105; refine (C56.out _).mono ?_; rintro e' w1 ⟨rfl, rfl⟩) | (go_at_call 104; refine (C55.out _).mono ?_; rintro e' w1 ⟨rfl, b1⟩)))
    obtain ⟨s1, l1, h1⟩ := FX.out _ b1
    have S1 := hide s1
    have H1 := hide h1
    obtain ⟨⟨p0, p1, p2, p3⟩, q0, q1, q2, q3⟩ := cells4 h1
    clear s1 h1 b1
    go_wp2
    (try simp only [Exit.inBlock, Exit.then])
    exact bodyPost_ret (res_frame3 rfl _ _ w.heap.size 0 0 0 ⟨#[]⟩ (0, 0) rfl (store4 H1.out _ _ _ _)) rfl ⟨by rw [ER.out]; rfl, below4 S1.out (Nat.le_refl _) _ _ _ _⟩
  have ER := hide er
  rw [← he] at C55
  clear he er CASES
  obtain ⟨v1, v2, v3⟩ := val_parts (bs s) (by omega)
  have V1 : Hid (∀ w', Calls Try.prog 106 #[.string (s.extract 0 1)] w' fun e w'' => e = .returned (.int .i64 ((kindOf (bs s) : Nat) : Int)) ∧ w' = w'') := by
    show ∀ w', _
    intro w'
    have := l6Value_calls (s.extract 0 1) w' (by rw [← bs_length, bs_mid, List.length_take]; omega)
    rw [bs_mid, List.drop_zero, Nat.sub_zero, v1] at this
    exact this
  have V2 : Hid (∀ w', Calls Try.prog 106 #[.string (s.extract 1 3)] w' fun e w'' => e = .returned (.int .i64 ((atOf (bs s) : Nat) : Int)) ∧ w' = w'') := by
    show ∀ w', _
    intro w'
    have := l6Value_calls (s.extract 1 3) w' (by rw [← bs_length, bs_mid, List.length_take]; omega)
    rw [bs_mid, v2] at this
    exact this
  have V3 : Hid (∀ w', Calls Try.prog 106 #[.string (s.extract 3 5)] w' fun e w'' => e = .returned (.int .i64 ((epochOf (bs s) : Nat) : Int)) ∧ w' = w'') := by
    show ∀ w', _
    intro w'
    have := l6Value_calls (s.extract 3 5) w' (by rw [← bs_length, bs_mid, List.length_take]; omega)
    rw [bs_mid, v3] at this
    exact this
  clear v1 v2 v3
  have hN : longOf (bs s) < 256 := getD_lt (bs_lt s) 5
  have hN5 : s[5].toNat = longOf (bs s) := (bs_getD s 5 (show 5 < s.size by omega)).symm
  have hz0 : kindOf (bs s) < 256 := getD_lt (bs_lt s) 0
  have hz1 : (bs s).getD 1 0 < 256 := getD_lt (bs_lt s) 1
  have hz2 : (bs s).getD 2 0 < 256 := getD_lt (bs_lt s) 2
  have hz3 : (bs s).getD 3 0 < 256 := getD_lt (bs_lt s) 3
  have hz4 : (bs s).getD 4 0 < 256 := getD_lt (bs_lt s) 4
  have hA : atOf (bs s) < 65536 := by unfold atOf; omega
  have hE : epochOf (bs s) < 65536 := by unfold epochOf; omega
  have T3 : Hid (longOf (bs s) ≤ 16 → _) := hide (rw_three s h28)
  have NO : Hid (¬ longOf (bs s) ≤ 16 → rwR s = frNo 3) := fun h => if_neg (fun h' => h h'.1)
  have hBd : s.extract 6 (6 + longOf (bs s)) = ofN (bodyOf (bs s)) := by
    apply bs_inj
    rw [bs_mid, Nat.add_sub_cancel_left, bs_ofN (l := bodyOf (bs s)) (fun x hx => bs_lt s x (List.mem_of_mem_drop (List.mem_of_mem_take hx)))]
    rfl
  have hBs : longOf (bs s) ≤ 16 → (ofN (bodyOf (bs s))).size ≤ 16 := by
    intro h
    rw [ofN_size]
    unfold bodyOf
    rw [List.length_take]
    omega
  have HBs := hide hBs
  clear hBs hz1 hz2 hz3 hz4
  generalize ofN (bodyOf (bs s)) = Bd at T3 hBd HBs
  generalize kindOf (bs s) = z0 at hz0 T3 V1
  generalize atOf (bs s) = zA at hA T3 V2
  generalize epochOf (bs s) = zE at hE T3 V3
  generalize longOf (bs s) = N at hN hN5 T3 NO HBs hBd
  clear hlen
  have FX2 : Hid (∀ (w1 : World), Below w.heap.size w w1 → w.heap.size < w1.heap.size → w1.heap[w.heap.size]? = some (.cells #[.int .i64 0, .int .i64 0, .int .i64 0, .string ⟨#[]⟩] 69 (0, 0)) →
      ∀ w3, Below (w1.alloc (.cells #[.int .i64 z0, .int .i64 zA, .int .i64 zE, .string Bd] 69)).drew.heap.size (w1.alloc (.cells #[.int .i64 z0, .int .i64 zA, .int .i64 zE, .string Bd] 69)).drew w3 →
      Below w.heap.size w w3 ∧ w3.heap[w.heap.size]? = some (.cells #[.int .i64 0, .int .i64 0, .int .i64 0, .string ⟨#[]⟩] 69 (0, 0)) ∧ w1.heap.size < w3.heap.size ∧ w3.heap[w1.heap.size]? = some (.cells #[.int .i64 z0, .int .i64 zA, .int .i64 zE, .string Bd] 69 (0, 0))) := by
    show ∀ (w1 : World), _
    intro w1 hs1 hl1 hh1 w3 b3
    have b1 : Below w1.heap.size w1 w3 := ((Below.refl _ _).alloc (Nat.le_refl _) _).drew.trans (b3.mono (by simp))
    refine ⟨hs1.trans (b1.mono (by omega)), (b1.block w.heap.size hl1).trans hh1, by have := b3.size; simp at this; omega, ?_⟩
    rw [b3.block w1.heap.size (by simp)]
    exact heap_alloc_new w1 _
  have hd1 : ∀ (X : World) (p : Addr) (v : Value), X.drew.setCell p v = (X.setCell p v).drew := fun _ _ _ => rfl
  have mk1 : True := trivial
  have mk2 : True := trivial
  go_enter Try.func50, Try.ntmps50
  go_wp2
  go_region_held3 (fun _ => True) (trivial) ((first | (go_at_call 105; refine (C56.out _).mono ?_; rintro e' w1 ⟨rfl, rfl⟩) | (go_at_call 104; refine (C55.out _).mono ?_; rintro e' w1 ⟨rfl, b1⟩)))
  obtain ⟨s1, l1, h1⟩ := FX.out _ b1
  have S1 := hide s1
  have H1 := hide h1
  clear s1 h1 b1 FX C55 C56
  go_wp2
  go_region_held3 (fun _ => True) (trivial) ((first
    | (clear mk1; go_at_call 106; refine (V1.out _).mono ?_; rintro e' w2 ⟨rfl, rfl⟩)
    | (clear mk2; go_at_call 106; refine (V2.out _).mono ?_; rintro e' w2 ⟨rfl, rfl⟩)
    | (go_at_call 106; refine (V3.out _).mono ?_; rintro e' w2 ⟨rfl, rfl⟩)))
  all_goals
    by_cases h16 : N ≤ 16
    case neg =>
      have ER2 := hide (NO.out h16)
      obtain ⟨⟨p0, p1, p2, p3⟩, q0, q1, q2, q3⟩ := cells4 H1.out
      have hne : ¬ w1.heap.size = w.heap.size := by omega
      have hne' : ¬ w.heap.size = w1.heap.size := by omega
      go_wp2
      (try simp only [Exit.inBlock, Exit.then])
      exact bodyPost_ret (res_frame3 rfl _ _ w.heap.size 0 0 0 ⟨#[]⟩ (0, 0) rfl (store4_alloc H1.out _ _ _ _ _)) rfl ⟨by rw [ER.out, ER2.out]; rfl, (below4_alloc S1.out (Nat.le_refl _) (Nat.le_refl _) _ _ _ _ _).drew⟩
    have C3 := hide (T3.out h16)
    have B16 := hide (HBs.out h16)
    have hBm : Bd.size ≤ maxLen := by have := B16.out; unfold maxLen; omega
    have HBM := hide hBm
    clear hBm
    have hsum : IntKind.i64.wrap (6 + (N : Int)) = 6 + (N : Int) := by rw [IntKind.wrap_i64]; omega
    have hsi : (6 + (N : Int)).toNat = 6 + N := by omega
    have hle : 6 + (N : Int) ≤ 28 := by omega
    go_wp2_with fail
    refine (sGoodFrame_calls z0 zA zE Bd _ HBM.out).mono ?_
    rintro e' w3 ⟨rfl, b3⟩
    obtain ⟨s3, h3, l3, f3⟩ := FX2.out w1 S1.out l1 H1.out _ b3
    have S3 := hide s3
    have H3 := hide h3
    have F3 := hide f3
    clear b3 s3
    rcases C3.out with ⟨hg, er⟩ | ⟨hg, hneq, er⟩ | ⟨hg, heq, er⟩
    · have ed : goodD z0 zA zE Bd.size = false := goodD_no hg
      rw [ed]
      have ER2 := hide er
      obtain ⟨⟨p0, p1, p2, p3⟩, q0, q1, q2, q3⟩ := cells4 h3
      clear ed er hg h3 f3
      go_wp2
      (try simp only [Exit.inBlock, Exit.then])
      exact bodyPost_ret (res_frame3 rfl _ _ w.heap.size 0 0 0 ⟨#[]⟩ (0, 0) rfl (store4 H3.out _ _ _ _)) rfl ⟨by rw [ER.out, ER2.out]; rfl, below4 S3.out (Nat.le_refl _) _ _ _ _⟩
    · have ed : goodD z0 zA zE Bd.size = true := goodD_yes hg
      rw [ed]
      have ER2 := hide er
      have HN := hide hneq
      obtain ⟨⟨c0, c1, c2, c3⟩, _, _, _, _⟩ := cells4 f3
      clear ed er hneq h3 f3 hg
      go_wp2_with fail
      refine (l6Frame_calls z0 zA zE Bd _ hz0 hA hE B16.out).mono ?_
      rintro e' w4 ⟨rfl, b4⟩
      have S4 := hide (S3.out.trans (b4.mono S3.out.size))
      have h4 : w4.heap[w.heap.size]? = some (.cells #[.int .i64 0, .int .i64 0, .int .i64 0, .string ⟨#[]⟩] 69 (0, 0)) := (b4.block w.heap.size (by omega)).trans H3.out
      have H4 := hide h4
      obtain ⟨⟨p0, p1, p2, p3⟩, q0, q1, q2, q3⟩ := cells4 h4
      have hn0 := HN.out
      generalize ofN (frB z0 zA zE (bs Bd)) = T at hn0 ⊢
      have hsl : ¬ T.toList = s.toList := fun h => hn0 (toList_inj h)
      have hslb : (T.toList == s.toList) = false := by simpa using hsl
      clear hn0 h4 b4 c0 c1 c2 c3
      go_wp2
      (try simp only [Exit.inBlock, Exit.then])
      exact bodyPost_ret (res_frame3 rfl _ _ w.heap.size 0 0 0 ⟨#[]⟩ (0, 0) rfl (store4 H4.out _ _ _ _)) rfl ⟨by rw [ER.out, ER2.out]; rfl, below4 S4.out (Nat.le_refl _) _ _ _ _⟩
    · have ed : goodD z0 zA zE Bd.size = true := goodD_yes hg
      rw [ed]
      have ER2 := hide er
      have HN := hide heq
      obtain ⟨⟨c0, c1, c2, c3⟩, _, _, _, _⟩ := cells4 f3
      clear ed er heq h3 f3 hg
      go_wp2_with fail
      refine (l6Frame_calls z0 zA zE Bd _ hz0 hA hE B16.out).mono ?_
      rintro e' w4 ⟨rfl, b4⟩
      rw [HN.out]
      have S4 := hide (S3.out.trans (b4.mono S3.out.size))
      have h4 : w4.heap[w.heap.size]? = some (.cells #[.int .i64 0, .int .i64 0, .int .i64 0, .string ⟨#[]⟩] 69 (0, 0)) := (b4.block w.heap.size (by omega)).trans H3.out
      have f4 : w4.heap[w1.heap.size]? = some (.cells #[.int .i64 z0, .int .i64 zA, .int .i64 zE, .string Bd] 69 (0, 0)) := (b4.block w1.heap.size l3).trans F3.out
      have H4 := hide h4
      obtain ⟨⟨p0, p1, p2, p3⟩, q0, q1, q2, q3⟩ := cells4 h4
      clear c0 c1 c2 c3
      obtain ⟨⟨c0, c1, c2, c3⟩, _, _, _, _⟩ := cells4 f4
      clear h4 f4 b4
      go_wp2
      (try simp only [Exit.inBlock, Exit.then])
      exact bodyPost_ret (res_frame3 rfl _ _ w.heap.size z0 zA zE Bd (0, 0) rfl (store4 H4.out _ _ _ _)) rfl ⟨by rw [ER.out, ER2.out]; rfl, below4 S4.out (Nat.le_refl _) _ _ _ _⟩

set_option maxRecDepth 100000 in
set_option maxHeartbeats 1600000 in
theorem sCheckFrame_calls (s : ByteArray) (kind at_ least : Int) (w : World) (hsz : s.size ≤ maxLen) :
    Calls Try.prog 53 #[.string s, .int .i64 kind, .int .i64 at_, .int .i64 least] w fun e w' => e = .returned (.tuple #[.agg #[.int .i64 (ckR s kind at_ least).K, .int .i64 (ckR s kind at_ least).A, .int .i64 (ckR s kind at_ least).E, .string (ckR s kind at_ least).B], .int .i64 (ckR s kind at_ least).code, .bool (ckR s kind at_ least).ok]) ∧ Below w.heap.size w w' := by
  have B0 := hide (below_box w (.cells #[.int .i64 0, .int .i64 0, .int .i64 0, .string ⟨#[]⟩] 69))
  have hok : (rdR s).ok = true → (rdR s).code = 0 := by
    unfold rdR
    split <;> (try split) <;> (try split) <;> simp [frNo]
  rcases hR : rdR s with ⟨K, A, E, B, code, ok⟩
  rw [hR] at hok
  simp only [] at hok
  have HR := hide hR
  have HS := hide hsz
  clear hsz
  go_enter Try.func53, Try.ntmps53
  go_wp2_with fail
  refine (sReadFrame_calls s _ HS.out).mono ?_
  rintro e' w2 ⟨rfl, b2⟩
  rw [HR.out]
  simp only []
  have h2 := box_at b2
  have S2 := hide (B0.out.trans (b2.mono (by simp)))
  have l2 : w.heap.size < w2.heap.size := by have := b2.size; simp at this; omega
  clear b2
  have H2 := hide h2
  obtain ⟨⟨p0, p1, p2, p3⟩, q0, q1, q2, q3⟩ := cells4 h2
  clear h2
  have hne : ¬ w2.heap.size = w.heap.size := by omega
  have hne' : ¬ w.heap.size = w2.heap.size := by omega
  cases ok with
  | false =>
    have er : ckR s kind at_ least = frNo code := by unfold ckR; rw [hR]; rfl
    have ER := hide er
    clear er hok hR
    · go_wp2
      (try simp only [Exit.inBlock, Exit.then])
      exact bodyPost_ret (res_frame3 rfl _ _ w.heap.size 0 0 0 ⟨#[]⟩ (0, 0) rfl (store4_alloc H2.out _ _ _ _ _)) rfl ⟨by rw [ER.out]; rfl, below4_alloc S2.out (Nat.le_refl _) (Nat.le_refl _) _ _ _ _ _⟩

  | true =>
    obtain rfl := hok rfl
    clear hok
    by_cases h1 : K = kind
    case neg =>
      have er : ckR s kind at_ least = frNo 3 := by unfold ckR; rw [hR, if_pos rfl, if_neg h1]
      have ER := hide er
      have h1b : (K == kind) = false := by simpa using h1
      clear er hR
      go_wp2
      (try simp only [Exit.inBlock, Exit.then])
      exact bodyPost_ret (res_frame3 rfl _ _ w.heap.size 0 0 0 ⟨#[]⟩ (0, 0) rfl (store4_alloc H2.out _ _ _ _ _)) rfl ⟨by rw [ER.out]; rfl, below4_alloc S2.out (Nat.le_refl _) (Nat.le_refl _) _ _ _ _ _⟩

    by_cases h2 : A = at_
    case neg =>
      have er : ckR s kind at_ least = frNo 4 := by unfold ckR; rw [hR, if_pos rfl, if_pos h1, if_neg h2]
      have ER := hide er
      have h2b : (A == at_) = false := by simpa using h2
      subst h1
      clear er hR
      go_wp2
      (try simp only [Exit.inBlock, Exit.then])
      exact bodyPost_ret (res_frame3 rfl _ _ w.heap.size 0 0 0 ⟨#[]⟩ (0, 0) rfl (store4_alloc H2.out _ _ _ _ _)) rfl ⟨by rw [ER.out]; rfl, below4_alloc S2.out (Nat.le_refl _) (Nat.le_refl _) _ _ _ _ _⟩

    by_cases h3 : least ≤ E
    case neg =>
      have er : ckR s kind at_ least = frNo 5 := by unfold ckR; rw [hR, if_pos rfl, if_pos h1, if_pos h2, if_neg h3]
      have ER := hide er
      have h3' : E < least := by omega
      subst h1
      subst h2
      clear er hR
      go_wp2
      (try simp only [Exit.inBlock, Exit.then])
      exact bodyPost_ret (res_frame3 rfl _ _ w.heap.size 0 0 0 ⟨#[]⟩ (0, 0) rfl (store4_alloc H2.out _ _ _ _ _)) rfl ⟨by rw [ER.out]; rfl, below4_alloc S2.out (Nat.le_refl _) (Nat.le_refl _) _ _ _ _ _⟩

    · have er : ckR s kind at_ least = ⟨K, A, E, B, 0, true⟩ := by unfold ckR; rw [hR, if_pos rfl, if_pos h1, if_pos h2, if_pos h3]
      have ER := hide er
      have h3' : ¬ E < least := by omega
      subst h1
      subst h2
      clear er hR
      go_wp2
      (try simp only [Exit.inBlock, Exit.then])
      exact bodyPost_ret (res_frame3 rfl _ _ w.heap.size K A E B (0, 0) rfl (store4_alloc H2.out _ _ _ _ _)) rfl ⟨by rw [ER.out]; rfl, below4_alloc S2.out (Nat.le_refl _) (Nat.le_refl _) _ _ _ _ _⟩
end Go.Proofs.Ytpgmocogffolaaa
