/-
  What a journal's disk tells, by the model: l15Recover, RecoverFrom, call by call. Each contract says what it asks. Rows held against rows, and whether a row of Booleans has one that is true: the library's functions and the model's, call by call. No condition but those that each names.
-/
import Derived.Test.YtpgmocogffolaaaGoodJournalB26
import Derived.Test.YtpgmocogffolaaaGoodJournalB7
import Derived.Test.YtpgmocogffolaaaGoodJournalB15
import Derived.BigQuiet
namespace Go.Proofs.Ytpgmocogffolaaa
open Go.RowKit
set_option linter.unusedVariables false
set_option linter.unusedSimpArgs false

/-- The bodies so far. -/
def bdK (P H : List ByteArray) (B : List Bool) (e : Int) (k : Nat) : List ByteArray := (List.range k).map fun j => (fa2 P H B e j).B
theorem bdK_succ (P H : List ByteArray) (B : List Bool) (e : Int) (k : Nat) : bdK P H B e (k + 1) = bdK P H B e k ++ [(fa2 P H B e k).B] := by simp [bdK, List.range_succ]
theorem bdK_len (P H : List ByteArray) (B : List Bool) (e : Int) (k : Nat) : (bdK P H B e k).length = k := by simp [bdK]
theorem bdK_two (P H : List ByteArray) (B : List Bool) (e : Int) : bdK P H B e 2 = [(fa2 P H B e 0).B, (fa2 P H B e 1).B] := rfl
theorem rsT_small {P H : List ByteArray} {B : List Bool} (gk : gkP P H B) (k : Nat) (hk : k < P.length) : (if B.getD k false = true then (⟨#[]⟩ : ByteArray) else rsT P H k).size ≤ maxLen := by
  unfold maxLen
  split
  · exact Nat.zero_le _
  · have := gk_rs gk k hk
    omega
theorem fa_bad {P H : List ByteArray} {B : List Bool} {kind least : Int} {k : Nat} (h : B.getD k false = true) : fa P H B kind (k : Int) least = frNo 0 := by
  unfold fa
  rw [Int.toNat_natCast, if_pos h]
theorem fa_good {P H : List ByteArray} {B : List Bool} {kind least : Int} {k : Nat} (h : B.getD k false = false) : fa P H B kind (k : Int) least = ckR (if B.getD k false = true then (⟨#[]⟩ : ByteArray) else rsT P H k) kind (k : Int) least := by
  unfold fa
  rw [Int.toNat_natCast, if_neg (by rw [h]; simp), if_neg (by rw [h]; simp)]
set_option maxRecDepth 100000 in
set_option maxHeartbeats 6400000 in
theorem l15Recover_calls (p h b : Value) (P H : List ByteArray) (B : List Bool) (w : World) (gk : gkP P H B) (h5 : P.length = 5) (hp : RdT w p P) (hh : RdT w h H) (hb : RdZ w b B) :
    Calls Try.prog 66 #[.agg #[p, h, b]] w fun x w' => ∃ v', x = .returned (.tuple #[v', .int .i64 (rcI (rcv P H B))]) ∧ Own w' w.heap.size v' (rcV (rcv P H B)) ∧ Below w.heap.size w w' := by
  obtain ⟨ap, cp, rfl, _, _⟩ := hp.sl
  obtain ⟨ah, ch, rfl, _, _⟩ := hh.sl
  obtain ⟨ab, cb, rfl, _, _⟩ := hb.sl
  have A0 := hide ((Hand.start w).box #[.slice ap P.length cp, .slice ah H.length ch, .slice ab B.length cb] 30)
  have RP := hide hp
  have RH := hide hh
  have RB := hide hb
  have GK := hide gk
  have H5 := hide h5
  have LR := hide (fun (k : Nat) (hk : k < P.length) W q1 q2 q3 => l7Read_calls (.slice ap P.length cp) (.slice ah H.length ch) (.slice ab B.length cb) P H B k W gk hk q1 q2 q3)
  have RZ := hide (fun W q1 q2 q3 => LR.out 0 (by omega) W q1 q2 q3)
  have CF := hide (fun W => sCheckFrame_calls (if B.getD 0 false = true then (⟨#[]⟩ : ByteArray) else rsT P H 0) 4 0 0 W (rsT_small gk 0 (by omega)))
  have N1 := hide (rcv_none1 (P := P) (H := H) (B := B))
  have N2 := hide (fun h1 h2 => rcv_none2 (P := P) (H := H) (B := B) h1 h2)
  have S2 := hide (fun h1 h2 => rcv_some (P := P) (H := H) (B := B) h1 h2)
  have EB := hide (fun (h : (fa P H B 4 0 0).ok = true) => fa_E h)
  have FB : Hid (B.getD 0 false = true → fa P H B 4 0 0 = frNo 0) := fun h => fa_bad (k := 0) h
  have FG : Hid (B.getD 0 false = false → fa P H B 4 0 0 = ckR (if B.getD 0 false = true then (⟨#[]⟩ : ByteArray) else rsT P H 0) 4 0 0) := fun h => fa_good (k := 0) h
  clear hp hh hb gk h5
  obtain ⟨x0, x1, x2⟩ := (A0.out.atBox 0 rfl).c3
  generalize hy : B.getD 0 false = y at RZ CF FB FG
  cases y with
  | true =>
    have e := N1.out (by rw [FB.out rfl]; simp [frNo])
    rw [e]
    clear e N1 N2 S2 EB FB FG hy
    show Calls _ _ _ _ fun x w' => ∃ v', x = .returned (.tuple #[v', .int .i64 (-1)]) ∧ Own w' w.heap.size v' [] ∧ _
    simp only [if_true] at CF RZ
    generalize ckR (⟨#[]⟩ : ByteArray) 4 0 0 = c at CF
    go_enter Try.func66, Try.ntmps66
    go_wp2_with fail
    refine (RZ.out _ (RP.out.below A0.out.below) (RH.out.below A0.out.below) (RB.out.below A0.out.below)).mono ?_
    rintro x w1 ⟨rfl, q⟩
    have A1 := hide (A0.out.step q)
    clear q A0 x0 x1 x2
    go_wp2_with fail
    refine (CF.out _).mono ?_
    rintro x w2 ⟨rfl, q⟩
    have A2 := hide ((A1.out.step q).box (frC c.K c.A c.E c.B) 69)
    clear q A1
    go_wp2
    go_ret2
    exact ⟨_, rfl, World.ownsRow_nil _ _ _ _, A2.out.below⟩
  | false =>
    have eF := FG.out rfl
    rw [← eF] at CF
    clear FB FG eF hy
    simp only [Bool.false_eq_true, if_false] at RZ
    obtain ⟨E', hE'⟩ : ∃ E', E' = (fa P H B 4 0 0).E := ⟨_, rfl⟩
    rw [← hE'] at N2 S2 EB
    have HE := hide hE'
    by_cases hokk : (fa P H B 4 0 0).ok = true
    case neg =>
      have e := N1.out hokk
      rw [e]
      have hf : (fa P H B 4 0 0).ok = false := by simpa using hokk
      rw [hf] at CF
      clear e N1 N2 S2 EB hokk hf hE' HE
      show Calls _ _ _ _ fun x w' => ∃ v', x = .returned (.tuple #[v', .int .i64 (-1)]) ∧ Own w' w.heap.size v' [] ∧ _
      generalize fa P H B 4 0 0 = c at CF
      generalize rsT P H 0 = s at RZ CF
      go_enter Try.func66, Try.ntmps66
      go_wp2_with fail
      refine (RZ.out _ (RP.out.below A0.out.below) (RH.out.below A0.out.below) (RB.out.below A0.out.below)).mono ?_
      rintro x w1 ⟨rfl, q⟩
      have A1 := hide (A0.out.step q)
      clear q A0 x0 x1 x2
      go_wp2_with fail
      refine (CF.out _).mono ?_
      rintro x w2 ⟨rfl, q⟩
      have A2 := hide ((A1.out.step q).box (frC c.K c.A c.E c.B) 69)
      clear q A1
      go_wp2
      go_ret2
      exact ⟨_, rfl, World.ownsRow_nil _ _ _ _, A2.out.below⟩
    case pos =>
      have hEb := EB.out hokk
      rw [hokk, ← hE'] at CF
      have NN := hide (N2.out hokk)
      have SS := hide (S2.out hokk)
      obtain ⟨oo, hoo⟩ : ∃ oo, oo = rcv P H B := ⟨_, rfl⟩
      rw [← hoo] at NN SS ⊢
      clear hoo
      generalize (fa P H B 4 0 0).K = K0 at CF
      generalize (fa P H B 4 0 0).A = A0v at CF
      generalize (fa P H B 4 0 0).B = B0 at CF
      generalize (fa P H B 4 0 0).code = C0 at CF
      clear N1 N2 S2 EB hokk hE' HE
      generalize rsT P H 0 = s0 at RZ CF
      obtain ⟨hf, ehf, h13⟩ : ∃ hf : Nat, hlf E' = (hf : Int) ∧ (hf = 1 ∨ hf = 3) := ⟨(hlf E').toNat, by have := hlf_in (e := E'); omega, by have := hlf_in (e := E'); omega⟩
      have HO := hide (fun W => l15Half_calls E' W hEb.1 hEb.2)
      rw [ehf] at HO
      have RK : Hid (∀ k : Nat, k < 2 → ∀ W, RdT W (.slice ap P.length cp) P → RdT W (.slice ah H.length ch) H → RdZ W (.slice ab B.length cb) B → ∃ y s, (Calls Try.prog 114 #[.agg #[.slice ap P.length cp, .slice ah H.length ch, .slice ab B.length cb], .int .i64 ((hf : Int) + (k : Int))] W fun x w' => x = .returned (.tuple #[.string s, .bool y]) ∧ Below W.heap.size W w') ∧
          ∃ c : Fr, (∀ W, Calls Try.prog 53 #[.string s, .int .i64 3, .int .i64 ((hf : Int) + (k : Int)), .int .i64 E'] W fun x w' => x = .returned (.tuple #[.agg (frC c.K c.A c.E c.B), .int .i64 c.code, .bool c.ok]) ∧ Below W.heap.size W w') ∧ ((y = true ∧ c = fa2 P H B E' k) ∨ (y = false ∧ (fa2 P H B E' k).ok = false))) := by
        show ∀ k : Nat, _
        intro k hk W q1 q2 q3
        have hkP : hf + k < P.length := by have := H5.out; omega
        have r := LR.out (hf + k) hkP W q1 q2 q3
        rw [show ((hf + k : Nat) : Int) = (hf : Int) + (k : Int) from by omega] at r
        have sm := rsT_small GK.out (hf + k) hkP
        refine ⟨_, _, r, _, fun W => sCheckFrame_calls _ 3 ((hf : Int) + (k : Int)) E' W sm, ?_⟩
        have ef : fa2 P H B E' k = fa P H B 3 ((hf + k : Nat) : Int) E' := by
          unfold fa2
          rw [ehf, show ((hf + k : Nat) : Int) = (hf : Int) + (k : Int) from by omega]
        cases hb2 : B.getD (hf + k) false with
        | true => exact .inr ⟨rfl, by rw [ef, fa_bad hb2]; rfl⟩
        | false =>
          refine .inl ⟨rfl, ?_⟩
          rw [ef, fa_good hb2, hb2, show ((hf + k : Nat) : Int) = (hf : Int) + (k : Int) from by omega]
      obtain ⟨t, ht⟩ := bol_exJ (jfP (bdK P H B E' 2))
      have SF := hide (fun v W q => sStateFrom_calls v (bdK P H B E' 2) t W q ht)
      have HT : Hid (t = true ↔ ((fa2 P H B E' 0).B.size = 6 ∧ (fa2 P H B E' 1).B.size = 6)) := by
        refine ht.trans ?_
        rw [bdK_two]
        constructor
        · intro h
          exact ⟨h.2 0 (by simp), h.2 1 (by simp)⟩
        · intro h
          refine ⟨rfl, fun i hi => ?_⟩
          have : i = 0 ∨ i = 1 := by simp at hi; omega
          rcases this with rfl | rfl
          · exact h.1
          · exact h.2
      have BSm : Hid (∀ k, ∀ s ∈ bdK P H B E' k, s.size ≤ 16) := by
        show ∀ k, _
        intro k s hs
        simp only [bdK, List.mem_map, List.mem_range] at hs
        obtain ⟨j, _, rfl⟩ := hs
        exact fa_small _ _ _ _ _ _
      clear ht ehf LR GK
      go_enter Try.func66, Try.ntmps66
      go_wp2_with fail
      refine (RZ.out _ (RP.out.below A0.out.below) (RH.out.below A0.out.below) (RB.out.below A0.out.below)).mono ?_
      rintro x w1 ⟨rfl, q⟩
      have A1 := hide (A0.out.step q)
      clear q A0 x0 x1 x2
      go_wp2_with fail
      refine (CF.out _).mono ?_
      rintro x w2 ⟨rfl, q⟩
      have A2 := hide ((A1.out.step q).box (frC K0 A0v E' B0) 69)
      have S2w : w.heap.size < w2.heap.size := by have := A1.out.below.size; have := (A1.out.atBox 0 rfl).lt; have := q.size; omega
      clear q A1
      obtain ⟨z0, z1, z2, z3⟩ := (A2.out.atBox 0 rfl).c4
      go_wp2_with fail
      refine (HO.out _).mono ?_
      rintro x w3 ⟨rfl, rfl⟩
      have X3 := hide (A2.out.atBox 1 rfl)
      have F3 := hide (A2.out.atBox 0 rfl)
      have W3 := hide A2.out.below
      clear A2 z0 z1 z2 z3
      go_wp2
      go_loopw [10, 11] (fun vo vk wr => ∃ k : Nat, vk = .int .i64 k ∧ k ≤ 2 ∧ wr.ownsRow w.heap.size 9 1 vo k ((bdK P H B E' k).map Value.string) ∧ (∀ j, vo.ownBlock = some j → j ≠ w.heap.size ∧ j ≠ w2.heap.size) ∧ BoxAt wr w.heap.size #[.slice ap P.length cp, .slice ah H.length ch, .slice ab B.length cb] 30 ∧ BoxAt wr w2.heap.size (frC K0 A0v E' B0) 69 ∧ Below w.heap.size w wr ∧ ∀ j, j < k → (fa2 P H B E' j).ok = true ∧ (fa2 P H B E' j).E = E') (fun _ vk _ => 2 - (intOf vk).toNat)
      case atStart => exact ⟨0, rfl, by omega, World.ownsRow_nil _ _ _ _, fun j hj => by simp [Value.ownBlock] at hj, X3.out, F3.out, W3.out, fun j hj => by omega⟩
      case round =>
        obtain ⟨k, rfl, hk, ho, hnb, hX, hF, hW, hall⟩ := hrel
        have O := hide ho
        obtain ⟨ao, co, rfl⟩ := row_slice ho
        have NB := hide hnb
        have XX := hide hX
        have FF := hide hF
        have WW := hide hW
        have AL := hide hall
        clear ho hnb hX hF hW hall X3 F3 W3
        by_cases hlt : k < 2
        · have hlt' : (k : Int) < 2 := by omega
          obtain ⟨x0, x1, x2⟩ := XX.out.c3
          obtain ⟨z0, z1, z2, z3⟩ := FF.out.c4
          obtain ⟨y, s, r1, c, r2, hc⟩ := RK.out k hlt _ (RP.out.below WW.out) (RH.out.below WW.out) (RB.out.below WW.out)
          have R1 := hide r1
          have R2 := hide r2
          have FK : Hid (hfP P H B E' → (fa2 P H B E' k).ok = true ∧ (fa2 P H B E' k).E = E') := fun h => by
            have : k = 0 ∨ k = 1 := by omega
            rcases this with rfl | rfl
            · exact h.1
            · exact h.2.1
          have AK : Hid ((fa2 P H B E' k).ok = true ∧ (fa2 P H B E' k).E = E' → ∀ j, j < k + 1 → (fa2 P H B E' j).ok = true ∧ (fa2 P H B E' j).E = E') := fun h j hj => by
            by_cases ej : j = k
            · rw [ej]; exact h
            · exact AL.out j (by omega)
          have BK := hide (bdK_succ P H B E' k)
          have hwb : hf ≤ 3 := by omega
          clear r1 r2
          go_wp2_with fail
          refine R1.out.mono ?_
          rintro x w4 ⟨rfl, q⟩
          have X4 := hide (XX.out.below q)
          have F4 := hide (FF.out.below q)
          have W4 := hide (WW.out.trans (q.mono WW.out.size))
          have O4 := hide (ownsRow_below O.out q)
          clear q XX FF WW O R1 x0 x1 x2 z0 z1 z2 z3
          obtain ⟨z0, z1, z2, z3⟩ := F4.out.c4
          go_wp2_with fail
          refine (R2.out _).mono ?_
          rintro x w5 ⟨rfl, q⟩
          have bq := q.trans ((below_box w5 (.cells (frC c.K c.A c.E c.B) 69)).mono q.size)
          have N5 := hide (BoxAt.new w5 (frC c.K c.A c.E c.B) 69)
          have X5 := hide (X4.out.below bq)
          have F5 := hide (F4.out.below bq)
          have W5 := hide (W4.out.trans (bq.mono W4.out.size))
          have O5 := hide (ownsRow_below O4.out bq)
          clear q bq X4 F4 W4 O4 R2 z0 z1 z2 z3
          obtain ⟨n0, n1, n2, n3⟩ := N5.out.c4
          obtain ⟨z0, z1, z2, z3⟩ := F5.out.c4
          rcases hc with ⟨rfl, hc⟩ | ⟨rfl, hc⟩
          · rw [← hc] at FK AK BK
            rcases c with ⟨K', A', Ec, bo, code, okk⟩
            simp only [] at FK AK BK n0 n1 n2 n3 N5 X5 F5 W5 O5 z0 z1 z2 z3 ⊢
            clear hc
            cases okk with
            | false =>
              have e := NN.out (fun h => by have := (FK.out h).1; simp at this)
              subst e
              go_wp2
              go_ret2
              exact ⟨_, rfl, World.ownsRow_nil _ _ _ _, W5.out⟩
            | true =>
              by_cases hE : Ec = E'
              · subst hE
                have hEb2 : (Ec != Ec) = false := by simp
                have W6 := hide (W5.out.alloc W5.out.size (.cells #[.string bo] 9))
                have O6 := hide (ownsRow_below O5.out (below_box _ (.cells #[.string bo] 9)))
                have X6 := hide (X5.out.below (below_box _ (.cells #[.string bo] 9)))
                have F6 := hide (F5.out.below (below_box _ (.cells #[.string bo] 9)))
                have hb6 := W6.out.size
                have hc6 : ((w5.alloc (.cells (frC K' A' Ec bo) 69)).alloc (.cells #[.string bo] 9)).cell? ⟨(w5.alloc (.cells (frC K' A' Ec bo) 69)).heap.size, 0, none⟩ = some (.string bo) := by
                  rw [cell_of_row _ _ 0 _ _ _ (heap_alloc_new _ _)]
                  rfl
                simp only [World.size_alloc] at hc6
                have SZ5 : Hid (w5.heap.size + 1 = (w5.alloc (.cells (frC K' A' Ec bo) 69)).heap.size) := by show _ = _; simp
                have w2l : w2.heap.size < w5.heap.size + 1 := by have := F5.out.lt; simp at this; omega
                clear W5 O5 X5 F5 N5 n0 n1 n2 z0 z1 z3
                go_wp2_with (at_builtin; refine wpList_append_text1 rfl _ _ rfl w.heap.size _ k (bdK P H B Ec k) bo rfl O6.out (w5.heap.size + 1) rfl hc6 (by omega) hb6 ?_)
                intro v7 w7 o7 g7
                rw [← BK.out] at o7
                have NB7 : Hid (∀ j, v7.ownBlock = some j → j ≠ w.heap.size ∧ j ≠ w2.heap.size) := fun j hj => by
                  have fr : ∀ (g : Nat) (cs : Array Value) (T : TypeId), 9 ≠ T → BoxAt ((w5.alloc (.cells (frC K' A' Ec bo) 69)).alloc (.cells #[.string bo] 9)) g cs T → (∀ i, (Value.slice ao k co).ownBlock = some i → i ≠ g) → j ≠ g := by
                    intro g cs T hT hbx hn ej
                    subst ej
                    have e7 := (g7.block j hbx.lt (fun e => hn j e.symm rfl)).trans hbx
                    rcases o7.2 with ⟨rfl, _⟩ | ⟨g', cap', cur', rfl, _, hg', _⟩
                    · simp [Value.ownBlock] at hj
                    · have : g' = j := by simpa [Value.ownBlock] using hj
                      subst this
                      rw [hg'] at e7
                      simp only [Option.some.injEq, Obj.cells.injEq] at e7
                      exact hT e7.2.1
                  exact ⟨fr _ _ _ (by decide) X6.out (fun i hi => (NB.out i hi).1), fr _ _ _ (by decide) F6.out (fun i hi => (NB.out i hi).2)⟩
                have O7 : Hid (w7.ownsRow w.heap.size 9 1 v7 (k + 1) ((bdK P H B Ec (k + 1)).map Value.string)) := by
                  show World.ownsRow _ _ _ _ _ _ _
                  have := bdK_len P H B Ec (k + 1)
                  have o := o7
                  unfold OwnT at o
                  rw [this] at o
                  exact o
                have X7 := hide ((g7.block _ X6.out.lt (fun e => (NB.out _ e.symm).1 rfl)).trans X6.out)
                have F7 := hide ((g7.block _ F6.out.lt (fun e => (NB.out _ e.symm).2 rfl)).trans F6.out)
                have W7 := hide (W6.out.grown g7 hb6 (fun j hj => (World.ownsRow.lt O6.out j hj).1))
                have AK7 := hide (AK.out (by simp))
                clear o7 g7 O6 X6 F6 W6 hc6 hb6 NB AK BK FK n3 z2
                go_wp2
                go_roundw
                case rel => exact ⟨k + 1, by go_num, by omega, O7.out, NB7.out, X7.out, F7.out, W7.out, AK7.out⟩
                case measure => simp [intOf]; omega
              · have hEb2 : (Ec != E') = true := by simpa using hE
                have e := NN.out (fun h => hE (FK.out h).2)
                subst e
                go_wp2
                go_ret2
                exact ⟨_, rfl, World.ownsRow_nil _ _ _ _, W5.out⟩
          · have e := NN.out (fun h => by have := (FK.out h).1; rw [hc] at this; simp at this)
            subst e
            clear hc FK AK BK
            go_wp2
            go_ret2
            exact ⟨_, rfl, World.ownsRow_nil _ _ _ _, W5.out⟩
        · obtain rfl : k = 2 := by omega
          have oT : OwnT wr w.heap.size (.slice ao 2 co) (bdK P H B E' 2) := O.out
          have RT := hide (OwnT.rd oT (fun s hs => Nat.le_trans (BSm.out 2 s hs) (by unfold maxLen; omega)))
          obtain ⟨z0, z1, z2, z3⟩ := FF.out.c4
          have EQ : t = true ↔ hfP P H B E' := HT.out.trans ⟨fun h => ⟨AL.out 0 (by omega), AL.out 1 (by omega), h⟩, fun h => h.2.2⟩
          cases t with
          | false =>
            have e := NN.out (fun h => by have := EQ.2 h; simp at this)
            subst e
            clear oT O EQ
            go_wp2_with fail
            refine (SF.out _ _ RT.out).mono ?_
            rintro x w4 ⟨v4, rfl, o4, b4⟩
            have B4 := hide (WW.out.trans (b4.mono WW.out.size))
            clear o4 b4
            go_wp2
            go_ret2
            exact ⟨_, rfl, World.ownsRow_nil _ _ _ _, B4.out⟩
          | true =>
            have e := SS.out (EQ.1 rfl)
            subst e
            clear oT O EQ
            go_wp2_with fail
            refine (SF.out _ _ RT.out).mono ?_
            rintro x w4 ⟨v4, rfl, o4, b4⟩
            have B4 := hide (WW.out.trans (b4.mono WW.out.size))
            have O4 := hide (ownsRow_mono o4 WW.out.size)
            have F4 := hide (FF.out.below b4)
            clear o4 b4 z0 z1 z2 z3
            obtain ⟨z0, z1, z2, z3⟩ := F4.out.c4
            go_wp2
            go_quiet (fail)
            go_wp2
            go_ret2
            exact ⟨_, rfl, ownsRow_below O4.out (below_drewN' _), B4.out.trans ((below_drewN' _).mono B4.out.size)⟩

set_option maxRecDepth 100000 in
set_option maxHeartbeats 1600000 in
theorem sRecoverFrom_calls (p h b : Value) (P H : List ByteArray) (B : List Bool) (g : Bool) (w : World) (hg : g = true ↔ (gkP P H B ∧ P.length = 5)) (hp : RdT w p P) (hh : RdT w h H) (hb : RdZ w b B) :
    Calls Try.prog 16 #[.agg #[p, h, b]] w fun x w' => ∃ v', x = .returned (.tuple #[v', .int .i64 (rcE (rcG g P H B)), .bool (rcB (rcG g P H B))]) ∧ Own w' w.heap.size v' (rcV (rcG g P H B)) ∧ Below w.heap.size w w' := by
  obtain ⟨ap, cp, rfl, mp, _⟩ := hp.sl
  obtain ⟨ah, ch, rfl, _, _⟩ := hh.sl
  obtain ⟨ab, cb, rfl, _, _⟩ := hb.sl
  have A0 := hide ((Hand.start w).box #[.slice ap P.length cp, .slice ah H.length ch, .slice ab B.length cb] 30)
  have RP := hide hp
  have RH := hide hh
  have RB := hide hb
  obtain ⟨y, hy⟩ := gk_bool' P H B
  have GD := hide (fun W q1 q2 q3 => sGoodDisk_calls (.slice ap P.length cp) (.slice ah H.length ch) (.slice ab B.length cb) P H B y W hy q1 q2 q3)
  clear hp hh hb
  obtain ⟨x0, x1, x2⟩ := (A0.out.atBox 0 rfl).c3
  cases y with
  | false =>
    obtain rfl : g = false := by cases g with | false => rfl | true => exact absurd (hy.2 (hg.1 rfl).1) (by simp)
    clear hg hy
    show Calls _ _ _ _ fun x w' => ∃ v', x = .returned (.tuple #[v', .int .i64 0, .bool false]) ∧ Own w' w.heap.size v' [] ∧ _
    go_enter Try.func16, Try.ntmps16
    go_wp2_with fail
    refine (GD.out _ (RP.out.below A0.out.below) (RH.out.below A0.out.below) (RB.out.below A0.out.below)).mono ?_
    rintro x w1 ⟨rfl, q⟩
    have A1 := hide (A0.out.step q)
    clear q
    go_wp2
    go_ret3
    exact ⟨_, rfl, World.ownsRow_nil _ _ _ _, A1.out.below⟩
  | true =>
    have gk := hy.1 rfl
    by_cases h5 : P.length = 5
    case neg =>
      obtain rfl : g = false := by cases g with | false => rfl | true => exact absurd (hg.1 rfl).2 h5
      have h5' : ¬ (P.length : Int) = 5 := by omega
      have h5b : ((P.length : Int) != 5) = true := by simp; omega
      clear hg hy h5 gk
      show Calls _ _ _ _ fun x w' => ∃ v', x = .returned (.tuple #[v', .int .i64 0, .bool false]) ∧ Own w' w.heap.size v' [] ∧ _
      go_enter Try.func16, Try.ntmps16
      go_wp2_with fail
      refine (GD.out _ (RP.out.below A0.out.below) (RH.out.below A0.out.below) (RB.out.below A0.out.below)).mono ?_
      rintro x w1 ⟨rfl, q⟩
      have A1 := hide (A0.out.step q)
      clear q A0 x0 x1 x2
      obtain ⟨x0, x1, x2⟩ := (A1.out.atBox 0 rfl).c3
      go_wp2
      go_ret3
      exact ⟨_, rfl, World.ownsRow_nil _ _ _ _, A1.out.below⟩
    case pos =>
      obtain rfl : g = true := hg.2 ⟨gk, h5⟩
      have h5' : (P.length : Int) = 5 := by omega
      have h5b : ((P.length : Int) != 5) = false := by simp; omega
      have LR := hide (fun W q1 q2 q3 => l15Recover_calls (.slice ap P.length cp) (.slice ah H.length ch) (.slice ab B.length cb) P H B W gk h5 q1 q2 q3)
      have EI := hide (fun vs e (h : rcv P H B = some (vs, e)) => (rcv_ok h).2.1)
      clear hg hy h5 gk
      show Calls _ _ _ _ fun x w' => ∃ v', x = .returned (.tuple #[v', .int .i64 (rcE (rcv P H B)), .bool (rcB (rcv P H B))]) ∧ Own w' w.heap.size v' (rcV (rcv P H B)) ∧ _
      generalize rcv P H B = oo at LR EI ⊢
      cases oo with
      | none =>
        show Calls _ _ _ _ fun x w' => ∃ v', x = .returned (.tuple #[v', .int .i64 0, .bool false]) ∧ Own w' w.heap.size v' [] ∧ _
        change Hid (∀ W : World, _ → _ → _ → Calls _ _ _ _ fun x w' => ∃ v', x = .returned (.tuple #[v', .int .i64 (-1)]) ∧ Own w' W.heap.size v' [] ∧ _) at LR
        clear EI
        go_enter Try.func16, Try.ntmps16
        go_wp2_with fail
        refine (GD.out _ (RP.out.below A0.out.below) (RH.out.below A0.out.below) (RB.out.below A0.out.below)).mono ?_
        rintro x w1 ⟨rfl, q⟩
        have A1 := hide (A0.out.step q)
        clear q A0 x0 x1 x2
        obtain ⟨x0, x1, x2⟩ := (A1.out.atBox 0 rfl).c3
        go_wp2_with fail
        refine (LR.out _ (RP.out.below A1.out.below) (RH.out.below A1.out.below) (RB.out.below A1.out.below)).mono ?_
        rintro x w2 ⟨v2, rfl, o2, q⟩
        have A2 := hide (A1.out.step q)
        clear q o2
        go_wp2
        go_ret3
        exact ⟨_, rfl, World.ownsRow_nil _ _ _ _, A2.out.below⟩
      | some r =>
        obtain ⟨vs, e⟩ := r
        have he : ¬ e < 0 := by have := EI.out vs e rfl; omega
        show Calls _ _ _ _ fun x w' => ∃ v', x = .returned (.tuple #[v', .int .i64 e, .bool true]) ∧ Own w' w.heap.size v' vs ∧ _
        change Hid (∀ W : World, _ → _ → _ → Calls _ _ _ _ fun x w' => ∃ v', x = .returned (.tuple #[v', .int .i64 e]) ∧ Own w' W.heap.size v' vs ∧ _) at LR
        clear EI
        go_enter Try.func16, Try.ntmps16
        go_wp2_with fail
        refine (GD.out _ (RP.out.below A0.out.below) (RH.out.below A0.out.below) (RB.out.below A0.out.below)).mono ?_
        rintro x w1 ⟨rfl, q⟩
        have A1 := hide (A0.out.step q)
        clear q A0 x0 x1 x2
        obtain ⟨x0, x1, x2⟩ := (A1.out.atBox 0 rfl).c3
        have S1 := A1.out.below.size
        go_wp2_with fail
        refine (LR.out _ (RP.out.below A1.out.below) (RH.out.below A1.out.below) (RB.out.below A1.out.below)).mono ?_
        rintro x w2 ⟨v2, rfl, o2, q⟩
        have A2 := hide (A1.out.step q)
        have O2 := hide (ownsRow_mono o2 S1)
        clear q o2
        go_wp2
        go_ret3
        exact ⟨_, rfl, O2.out, A2.out.below⟩
set_option maxRecDepth 100000 in
set_option maxHeartbeats 1600000 in
theorem recoverFrom_calls (p h b : Value) (P H : List ByteArray) (B : List Bool) (g : Bool) (w : World) (hg : g = true ↔ (gkP P H B ∧ P.length = 5)) (hp : RdT w p P) (hh : RdT w h H) (hb : RdZ w b B) :
    Calls Try.prog 18 #[.agg #[p, h, b]] w fun x w' => ∃ v', x = .returned (.tuple #[v', .int .i64 (rcE (rcG g P H B)), .bool (rcB (rcG g P H B))]) ∧ Own w' w.heap.size v' (rcV (rcG g P H B)) ∧ Below w.heap.size w w' := by
  by_cases h5 : P.length = 5
  case neg =>
    obtain rfl : g = false := by cases g with | false => rfl | true => exact absurd (hg.1 rfl).2 h5
    obtain ⟨ap, cp, rfl, mp, _⟩ := hp.sl
    obtain ⟨ah, ch, rfl, _, _⟩ := hh.sl
    obtain ⟨ab, cb, rfl, _, _⟩ := hb.sl
    have A0 := hide ((Hand.start w).box #[.slice ap P.length cp, .slice ah H.length ch, .slice ab B.length cb] 30)
    have h5' : ¬ (P.length : Int) = 5 := by omega
    have h5b : ((P.length : Int) != 5) = true := by simp; omega
    clear hg hp hh hb h5
    show Calls _ _ _ _ fun x w' => ∃ v', x = .returned (.tuple #[v', .int .i64 0, .bool false]) ∧ Own w' w.heap.size v' [] ∧ _
    obtain ⟨x0, x1, x2⟩ := (A0.out.atBox 0 rfl).c3
    go_enter Try.func18, Try.ntmps18
    go_wp2
    go_ret3
    exact ⟨_, rfl, World.ownsRow_nil _ _ _ _, A0.out.below⟩
  case pos =>
    by_cases gk : gkP P H B
    case pos =>
      obtain rfl : g = true := hg.2 ⟨gk, h5⟩
      exact recoverFrom_good p h b P H B w gk h5 hp hh hb
    case neg =>
      obtain rfl : g = false := by cases g with | false => rfl | true => exact absurd (hg.1 rfl).1 gk
      obtain ⟨ap, cp, rfl, mp, _⟩ := hp.sl
      obtain ⟨ah, ch, rfl, _, _⟩ := hh.sl
      obtain ⟨ab, cb, rfl, _, _⟩ := hb.sl
      have A0 := hide ((Hand.start w).box #[.slice ap P.length cp, .slice ah H.length ch, .slice ab B.length cb] 30)
      have RP := hide hp
      have RH := hide hh
      have RB := hide hb
      have RF := hide (fun W q1 q2 q3 => readFrameAt_no (.slice ap P.length cp) (.slice ah H.length ch) (.slice ab B.length cb) P H B 4 0 0 W (fun h => gk h.1) q1 q2 q3)
      have h5' : (P.length : Int) = 5 := by omega
      have h5b : ((P.length : Int) != 5) = false := by simp; omega
      clear hg hp hh hb h5 gk
      show Calls _ _ _ _ fun x w' => ∃ v', x = .returned (.tuple #[v', .int .i64 0, .bool false]) ∧ Own w' w.heap.size v' [] ∧ _
      obtain ⟨x0, x1, x2⟩ := (A0.out.atBox 0 rfl).c3
      go_enter Try.func18, Try.ntmps18
      go_wp2_with fail
      refine (RF.out _ (RP.out.below A0.out.below) (RH.out.below A0.out.below) (RB.out.below A0.out.below)).mono ?_
      rintro x w1 ⟨rfl, q⟩
      have A1 := hide ((A0.out.step q).box (frC 0 0 0 ⟨#[]⟩) 69)
      clear q
      go_wp2
      go_ret3
      exact ⟨_, rfl, World.ownsRow_nil _ _ _ _, A1.out.below⟩
end Go.Proofs.Ytpgmocogffolaaa

namespace Go.Proofs.Ytpgmocogffolaaa
open Go.RowKit
set_option linter.unusedVariables false
set_option linter.unusedSimpArgs false

theorem take_likeJ {xs ys : List Int} {k : Nat} (h1 : k < xs.length) (h2 : k < ys.length) (h : xs.take k = ys.take k) (e : xs.getD k 0 = ys.getD k 0) : xs.take (k + 1) = ys.take (k + 1) := by
  rw [List.take_succ_eq_append_getElem h1, List.take_succ_eq_append_getElem h2, h]
  rw [List.getD_eq_getElem?_getD, List.getD_eq_getElem?_getD, List.getElem?_eq_getElem h1, List.getElem?_eq_getElem h2] at e
  simp only [Option.getD_some] at e
  rw [e]
set_option maxRecDepth 100000 in
set_option maxHeartbeats 800000 in
theorem jEq_drew (v1 v2 : Value) (xs ys : List Int) (t : Bool) (w : World) (h1 : Rd w v1 xs) (h2 : Rd w v2 ys) (ht : t = decide (xs = ys)) :
    Calls Try.prog 82 #[v1, v2] w fun e w' => e = .returned (.bool t) ∧ ∃ n, w' = w.drewN n := by
  have R1 := hide h1
  have R2 := hide h2
  have T := hide ht
  obtain ⟨a1, c1, rfl, _, m1, k1⟩ := h1
  obtain ⟨a2, c2, rfl, _, _, k2⟩ := h2
  have hm : xs.length ≤ maxLen := by omega
  unfold maxLen at hm
  clear k1 k2 m1 ht
  by_cases hl : xs.length = ys.length
  · have t1 : ((xs.length : Int) != (ys.length : Int)) = false := by simp; omega
    have HL := hide hl
    clear hl
    go_enter Try.func82, Try.ntmps82
    go_wp2
    go_loopw [13] (fun vi wr => ∃ k n : Nat, k ≤ xs.length ∧ vi = .int .i64 k ∧ wr = w.drewN n ∧ xs.take k = ys.take k) (fun vi _ => xs.length - (intOf vi).toNat)
    case atStart => exact ⟨0, 0, Nat.zero_le _, rfl, rfl, rfl⟩
    case round =>
      obtain ⟨k, n, hk, rfl, rfl, hs⟩ := hrel
      have S := hide hs
      clear hs
      by_cases hlt : k < xs.length
      · have hlt' : (k : Int) < (xs.length : Int) := by omega
        have hlt2 : (k : Int) < (ys.length : Int) := by have := HL.out; omega
        obtain ⟨b, off, rfl, hu⟩ := rdAtJ R1.out k hlt
        obtain ⟨b', off', rfl, hu'⟩ := rdAtJ R2.out k (by have := HL.out; omega)
        have e1 : (w.drewN n).cell? ⟨b, off + k, none⟩ = _ := hu
        have e2 : (w.drewN n).cell? ⟨b', off' + k, none⟩ = _ := hu'
        obtain ⟨x, hx⟩ : ∃ x, x = xs.getD k 0 := ⟨_, rfl⟩
        obtain ⟨y, hy⟩ : ∃ y, y = ys.getD k 0 := ⟨_, rfl⟩
        rw [← hx] at hu e1
        rw [← hy] at hu' e2
        have X := hide hx
        have Y := hide hy
        clear hx hy
        by_cases e : x = y
        · have t2 : (x != y) = false := by simp [e]
          have E := hide e
          clear e
          go_wp2
          go_quiet (fail)
          go_wp2
          go_roundw
          case rel => exact ⟨k + 1, _, by omega, by go_num, rfl, take_likeJ hlt (by have := HL.out; omega) S.out (by rw [← X.out, ← Y.out, E.out])⟩
          case measure => simp [intOf]; omega
        · have t2 : (x != y) = true := by simp [e]
          have NE : Hid (t = false) := by
            show _ = _
            rw [T.out]
            exact decide_eq_false (fun h => e (by rw [X.out, Y.out, h]))
          clear e
          go_wp2
          go_quiet (fail)
          go_wp2
          go_ret
          refine ⟨ret_bool NE.out.symm, ?_⟩
          rw [World.drewN_drewN]
          exact ⟨_, rfl⟩
      · obtain rfl : k = xs.length := by omega
        have NE : Hid (t = true) := by
          show _ = _
          rw [T.out]
          have := S.out
          rw [List.take_length, HL.out, List.take_length] at this
          exact decide_eq_true this
        go_wp2
        go_ret
        exact ⟨ret_bool NE.out.symm, _, rfl⟩
  · have t1 : ((xs.length : Int) != (ys.length : Int)) = true := by simp; omega
    have NE : Hid (t = false) := by
      show _ = _
      rw [T.out]
      exact decide_eq_false (fun h => hl (by rw [h]))
    clear hl
    go_enter Try.func82, Try.ntmps82
    go_wp2
    go_ret
    exact ⟨ret_bool NE.out.symm, 0, rfl⟩
theorem jEq_is (v1 v2 : Value) (xs ys : List Int) (w : World) (h1 : Rd w v1 xs) (h2 : Rd w v2 ys) :
    Calls Try.prog 82 #[v1, v2] w fun e w' => e = .returned (.bool (decide (xs = ys))) ∧ Below w.heap.size w w' :=
  (jEq_drew v1 v2 xs ys _ w h1 h2 rfl).mono fun _ _ ⟨he, n, hw⟩ => ⟨he, by rw [hw]; exact below_drewN' n⟩

set_option maxRecDepth 100000 in
set_option maxHeartbeats 800000 in
theorem jSame_drew (v1 v2 : Value) (xs ys : List Int) (t : Bool) (w : World) (h1 : Rd w v1 xs) (h2 : Rd w v2 ys) (ht : t = decide (xs = ys)) :
    Calls Try.prog 77 #[v1, v2] w fun e w' => e = .returned (.bool t) ∧ ∃ n, w' = w.drewN n := by
  have R1 := hide h1
  have R2 := hide h2
  have T := hide ht
  obtain ⟨a1, c1, rfl, _, m1, k1⟩ := h1
  obtain ⟨a2, c2, rfl, _, _, k2⟩ := h2
  have hm : xs.length ≤ maxLen := by omega
  unfold maxLen at hm
  clear k1 k2 m1 ht
  by_cases hl : xs.length = ys.length
  · have t1 : ((xs.length : Int) != (ys.length : Int)) = false := by simp; omega
    have HL := hide hl
    clear hl
    go_enter Try.func77, Try.ntmps77
    go_wp2
    go_loopw [13] (fun vi wr => ∃ k n : Nat, k ≤ xs.length ∧ vi = .int .i64 k ∧ wr = w.drewN n ∧ xs.take k = ys.take k) (fun vi _ => xs.length - (intOf vi).toNat)
    case atStart => exact ⟨0, 0, Nat.zero_le _, rfl, rfl, rfl⟩
    case round =>
      obtain ⟨k, n, hk, rfl, rfl, hs⟩ := hrel
      have S := hide hs
      clear hs
      by_cases hlt : k < xs.length
      · have hlt' : (k : Int) < (xs.length : Int) := by omega
        have hlt2 : (k : Int) < (ys.length : Int) := by have := HL.out; omega
        obtain ⟨b, off, rfl, hu⟩ := rdAtJ R1.out k hlt
        obtain ⟨b', off', rfl, hu'⟩ := rdAtJ R2.out k (by have := HL.out; omega)
        have e1 : (w.drewN n).cell? ⟨b, off + k, none⟩ = _ := hu
        have e2 : (w.drewN n).cell? ⟨b', off' + k, none⟩ = _ := hu'
        obtain ⟨x, hx⟩ : ∃ x, x = xs.getD k 0 := ⟨_, rfl⟩
        obtain ⟨y, hy⟩ : ∃ y, y = ys.getD k 0 := ⟨_, rfl⟩
        rw [← hx] at hu e1
        rw [← hy] at hu' e2
        have X := hide hx
        have Y := hide hy
        clear hx hy
        by_cases e : x = y
        · have t2 : (x != y) = false := by simp [e]
          have E := hide e
          clear e
          go_wp2
          go_quiet (fail)
          go_wp2
          go_roundw
          case rel => exact ⟨k + 1, _, by omega, by go_num, rfl, take_likeJ hlt (by have := HL.out; omega) S.out (by rw [← X.out, ← Y.out, E.out])⟩
          case measure => simp [intOf]; omega
        · have t2 : (x != y) = true := by simp [e]
          have NE : Hid (t = false) := by
            show _ = _
            rw [T.out]
            exact decide_eq_false (fun h => e (by rw [X.out, Y.out, h]))
          clear e
          go_wp2
          go_quiet (fail)
          go_wp2
          go_ret
          refine ⟨ret_bool NE.out.symm, ?_⟩
          rw [World.drewN_drewN]
          exact ⟨_, rfl⟩
      · obtain rfl : k = xs.length := by omega
        have NE : Hid (t = true) := by
          show _ = _
          rw [T.out]
          have := S.out
          rw [List.take_length, HL.out, List.take_length] at this
          exact decide_eq_true this
        go_wp2
        go_ret
        exact ⟨ret_bool NE.out.symm, _, rfl⟩
  · have t1 : ((xs.length : Int) != (ys.length : Int)) = true := by simp; omega
    have NE : Hid (t = false) := by
      show _ = _
      rw [T.out]
      exact decide_eq_false (fun h => hl (by rw [h]))
    clear hl
    go_enter Try.func77, Try.ntmps77
    go_wp2
    go_ret
    exact ⟨ret_bool NE.out.symm, 0, rfl⟩
theorem jSame_is (v1 v2 : Value) (xs ys : List Int) (w : World) (h1 : Rd w v1 xs) (h2 : Rd w v2 ys) :
    Calls Try.prog 77 #[v1, v2] w fun e w' => e = .returned (.bool (decide (xs = ys))) ∧ Below w.heap.size w w' :=
  (jSame_drew v1 v2 xs ys _ w h1 h2 rfl).mono fun _ _ ⟨he, n, hw⟩ => ⟨he, by rw [hw]; exact below_drewN' n⟩

set_option maxRecDepth 100000 in
set_option maxHeartbeats 800000 in
theorem indexZ_calls (v : Value) (xs : List Bool) (w : World) (h : RdZ w v xs) (hm : xs.length ≤ 1048576) :
    Calls Try.prog 120 #[v, .bool true] w fun e w' => (∃ r : Int, e = .returned (.int .i64 r) ∧ (0 ≤ r ↔ ∃ i, i < xs.length ∧ xs.getD i false = true)) ∧ w = w' := by
  have R := hide h
  obtain ⟨a, cap, rfl, q1, _⟩ := h.sl
  go_enter Try.func120, Try.ntmps120
  go_wp2
  go_loop [8] (fun vi => ∃ k : Nat, k ≤ xs.length ∧ vi = .int .i64 k ∧ ∀ i, i < k → xs.getD i false = false) (fun vi => xs.length - (intOf vi).toNat)
  case atStart => exact ⟨0, Nat.zero_le _, rfl, fun i hi => by omega⟩
  case round =>
    obtain ⟨k, hk, rfl, hall⟩ := hrel
    have A := hide hall
    clear hall
    by_cases hlt : k < xs.length
    · have hlt' : (k : Int) < (xs.length : Int) := by omega
      obtain ⟨b, off, rfl, hc, _⟩ := R.out.cell k hlt
      have Y : Hid (xs.getD k false = true → ∃ i, i < xs.length ∧ xs.getD i false = true) := fun h => ⟨k, hlt, h⟩
      have Y2 : Hid (xs.getD k false = false → ∀ i, i < k + 1 → xs.getD i false = false) := fun h i hi => by
        by_cases e : i = k
        · rw [e]; exact h
        · exact A.out i (by omega)
      generalize xs.getD k false = y at hc Y Y2
      cases y with
      | true =>
        have M := hide (Y.out rfl)
        clear Y Y2
        go_wp2
        go_ret
        exact ⟨⟨_, rfl, fun _ => M.out, fun _ => by omega⟩, rfl⟩
      | false =>
        have A2 := hide (Y2.out rfl)
        clear Y Y2
        go_wp2
        go_round
        case rel => exact ⟨k + 1, by omega, by go_num, A2.out⟩
        case measure => simp [intOf]; omega
    · obtain rfl : k = xs.length := by omega
      go_wp2
      go_ret
      refine ⟨⟨-1, rfl, fun h => by omega, fun h => ?_⟩, rfl⟩
      obtain ⟨i, hi, e⟩ := h
      have a := A.out i hi
      rw [List.getD_eq_getElem?_getD] at a
      rw [a] at e
      simp at e
set_option maxRecDepth 100000 in
theorem containsZ_calls (v : Value) (xs : List Bool) (t : Bool) (w : World) (h : RdZ w v xs) (hm : xs.length ≤ 1048576) (ht : t = true ↔ ∃ i, i < xs.length ∧ xs.getD i false = true) :
    Calls Try.prog 80 #[v, .bool true] w fun e w' => e = .returned (.bool t) ∧ w = w' := by
  have Y := hide ht
  clear ht
  go_enter Try.func80, Try.ntmps80
  go_wp2_with fail
  refine (indexZ_calls v xs w h hm).mono ?_
  rintro e w1 ⟨⟨r, rfl, hr⟩, rfl⟩
  have e2 : decide (0 ≤ r) = t := by
    cases t with
    | true => exact decide_eq_true (hr.2 (Y.out.1 rfl))
    | false => exact decide_eq_false (fun h => by have := Y.out.2 (hr.1 h); simp at this)
  have E2 := hide e2
  clear hr e2
  go_wp2
  go_ret
  rw [← E2.out]
  exact ⟨rfl, rfl⟩
end Go.Proofs.Ytpgmocogffolaaa
