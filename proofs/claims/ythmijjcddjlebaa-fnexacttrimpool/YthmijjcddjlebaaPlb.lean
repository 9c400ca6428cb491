/-
  Pools as they should be: what the model's GoodPool tells. The contract says what it asks.
-/
import Derived.Test.YthmijjcddjlebaaPla
namespace Go.Proofs.Ythmijjcddjlebaa
open Go.RowKit
set_option linter.unusedVariables false

set_option maxRecDepth 100000 in
set_option maxHeartbeats 3200000 in
theorem sGoodPool_calls (p r : Value) (m : List Nd) (vs : List Int) (y : Bool) (w : World) (h : RdP w p r m vs) (hy : y = true ↔ okP m vs) :
    Calls Try.prog 32 #[.agg #[p, r]] w fun e w' => e = .returned (.bool y) ∧ Below w.heap.size w w' := by
  have b0 := below_box w (.cells #[p, r] 43)
  have R := hide (h.below b0).1
  have V := hide (h.below b0).2
  have X0 : Hid (BoxAt (w.alloc (.cells #[p, r] 43)) w.heap.size #[p, r] 43) := BoxAt.new w _ _
  have B0 := hide b0
  obtain ⟨⟨a, cap, rfl, h1, h2, h3⟩, hr⟩ := h
  obtain ⟨ra, rc, rfl, hr1, hr2⟩ := hr.slc
  have hm : m.length ≤ maxLen := by omega
  have hrm : vs.length ≤ maxLen := by omega
  unfold maxLen at hm hrm
  clear h1 h2 h3 b0 hr hr1 hr2
  obtain ⟨w0, hw0⟩ : ∃ w0, w0 = w.alloc (.cells #[.slice a m.length cap, .slice ra vs.length rc] 43) := ⟨_, rfl⟩
  rw [← hw0] at R V X0 B0
  have W0 := hide hw0
  clear hw0
  have HY := hide hy
  clear hy
  go_enter Try.func32, Try.ntmps32
  go_wp2
  rw [← W0.out]
  go_loopw [12] (fun vi wr => ∃ k : Nat, k ≤ m.length ∧ vi = .int .i64 k ∧ (∀ i, i < k → okB m i (m.getD i nd0)) ∧ Below w0.heap.size w0 wr) (fun vi _ => m.length - (intOf vi).toNat)
  case atStart => exact ⟨0, Nat.zero_le _, rfl, fun i hi => by omega, Below.refl _ _⟩
  case round =>
    obtain ⟨k, hk, rfl, hall, hb⟩ := hrel
    have HA := hide hall
    have B := hide hb
    clear hall hb
    have BR := hide (B0.out.trans (B.out.mono B0.out.size))
    by_cases hlt : k < m.length
    · obtain ⟨b, off, hu0, ks, z, rfl, hx, hu, c0, c1⟩ := (R.out.below B.out).at k hlt
      have HX := hide hx
      have U := hide hu
      obtain ⟨ua, uc, rfl, hul, hum⟩ := U.out.slc
      obtain ⟨w1, hw1⟩ : ∃ w1, w1 = wr.alloc (.cells #[.slice ua ks.length uc, .bool z] 104) := ⟨_, rfl⟩
      have b1 : Below wr.heap.size wr w1 := by rw [hw1]; exact below_box _ _
      have x1 : BoxAt w1 wr.heap.size #[.slice ua ks.length uc, .bool z] 104 := by rw [hw1]; exact BoxAt.new _ _ _
      have BB := hide (B.out.trans (b1.mono B.out.size))
      have BW := hide (BR.out.trans (b1.mono BR.out.size))
      have X1 := hide x1
      have W1 := hide hw1
      have hlt' : (k : Int) < (m.length : Int) := by omega
      have R1 := hide (R.out.below BB.out)
      have U1 := hide (U.out.below b1)
      have hkl : ks.length ≤ 9223372036854775807 := by unfold maxLen at hum; omega
      have P0 := hide (X0.out.below BB.out)
      clear hx hu b1 x1 hw1 hul hum
      go_wp2
      rw [← W1.out]
      clear c0 c1
      go_loop [20] (fun vi => ∃ j : Nat, j ≤ ks.length ∧ vi = .int .i64 j ∧ ∀ i, i < j → tK m k z (ks.getD i 0)) (fun vi => ks.length - (intOf vi).toNat)
      case atStart => exact ⟨0, Nat.zero_le _, rfl, fun i hi => by omega⟩
      case round =>
        obtain ⟨j, hj, rfl, hjj⟩ := hrel
        have HJ := hide hjj
        clear hjj
        obtain ⟨c2, c3⟩ := X1.out.c2
        by_cases hlj : j < ks.length
        · obtain ⟨_, _, e1, _, _, h3⟩ := U1.out
          simp only [Value.slice.injEq] at e1
          obtain ⟨rfl, _, rfl⟩ := e1
          rcases h3 with rfl | ⟨hb, ho, rfl, _, hc⟩
          · simp at hlj
          have hc1 := hc j hlj
          clear hc
          obtain ⟨x, hxx⟩ : ∃ x, x = ks.getD j 0 := ⟨_, rfl⟩
          rw [← hxx] at hc1
          have XX := hide hxx
          have hlj' : (j : Int) < (ks.length : Int) := by omega
          clear hxx
          have NO : Hid (¬ tK m k z x → y = false) := by
            show _ → _
            intro hn
            cases y with
            | false => rfl
            | true =>
              have := ((HY.out.1 rfl).2.1 k hlt).2 j (by rw [HX.out]; exact hlj)
              rw [HX.out] at this
              exact absurd (by rw [XX.out]; exact this) hn
          cases z with
          | true =>
            by_cases hv : vOk x
            · have ht : tK m k true x := ⟨fun _ => hv, fun e => by simp at e⟩
              have HT := hide ht
              have hv1 := hv.1
              have hv2 := hv.2
              clear ht hv
              go_wp2_with fail
              refine (l1In_yes x 0 9999 _ (by omega) (by omega)).mono ?_
              rintro e w2 ⟨rfl, rfl⟩
              go_wp2
              go_round
              case rel =>
                refine ⟨j + 1, by omega, by go_num, fun i hi => ?_⟩
                by_cases e : i = j
                · subst e; rw [← XX.out]; exact HT.out
                · exact HJ.out i (by omega)
              case measure => simp [intOf]; omega
            · have hn := NO.out (fun h => hv (h.1 rfl))
              subst hn
              have HV := hide hv
              clear hv
              go_wp2_with fail
              refine (l1In_no x 0 9999 _ (by have := HV.out; unfold vOk at this; omega)).mono ?_
              rintro e w2 ⟨rfl, rfl⟩
              go_wp2
              go_ret
              exact ⟨rfl, BW.out⟩
          | false =>
            by_cases hx1 : x = -1
            · have HT : Hid (tK m k false x) := ⟨fun e => by simp at e, fun _ => .inl hx1⟩
              go_wp2
              go_round
              case rel =>
                refine ⟨j + 1, by omega, by go_num, fun i hi => ?_⟩
                by_cases e : i = j
                · subst e; rw [← XX.out]; exact HT.out
                · exact HJ.out i (by omega)
              case measure => simp [intOf]; omega
            by_cases hx0 : 0 ≤ x
            case neg =>
              have hn := NO.out (fun h => (h.2 rfl).elim hx1 (fun h => hx0 h.1))
              subst hn
              have hx0' : x < 0 := by omega
              go_wp2
              go_ret
              exact ⟨rfl, BW.out⟩
            obtain ⟨n, rfl⟩ : ∃ n : Nat, x = (n : Int) := ⟨x.toNat, by omega⟩
            by_cases hxk : n < k
            case neg =>
              have hn := NO.out (fun h => (h.2 rfl).elim hx1 (fun h => hxk (by have := h.2.1; omega)))
              subst hn
              have hx0' : ¬ (n : Int) < 0 := by omega
              have hxk' : (k : Int) ≤ (n : Int) := by omega
              go_wp2
              go_ret
              exact ⟨rfl, BW.out⟩
            obtain ⟨b', off', u', ks', z', ea, hx', _, d0, d1⟩ := R1.out.at n (by omega)
            obtain ⟨rfl, rfl⟩ : b = b' ∧ off = off' := by simpa using ea
            have hx0' : ¬ (n : Int) < 0 := by omega
            have hxk' : ¬ (k : Int) ≤ (n : Int) := by omega
            have hnm : (n : Int) < (m.length : Int) := by omega
            have OK : Hid (z' = true → tK m k false (n : Int)) := by
              show _ → _
              intro e
              exact ⟨fun e => by simp at e, fun _ => .inr ⟨by omega, by omega, by rw [Int.toNat_natCast, hx']; exact e⟩⟩
            have NK : Hid (z' = false → ¬ tK m k false (n : Int)) := by
              show _ → _
              intro e h
              have := ((h.2 rfl).resolve_left (by omega)).2.2
              rw [Int.toNat_natCast, hx', e] at this
              simp at this
            obtain ⟨p0, p1⟩ := P0.out.c2
            clear hx' ea d0 p1
            cases z' with
            | false =>
              have hn := NO.out (NK.out rfl)
              subst hn
              go_wp2
              go_ret
              exact ⟨rfl, BW.out⟩
            | true =>
              go_wp2
              go_round
              case rel =>
                refine ⟨j + 1, by omega, by go_num, fun i hi => ?_⟩
                by_cases e : i = j
                · subst e; rw [← XX.out]; exact OK.out rfl
                · exact HJ.out i (by omega)
              case measure => simp [intOf]; omega
        · obtain rfl : j = ks.length := by omega
          by_cases h4 : ks.length = 4
          case neg =>
            have hn : y = false := by
              cases y with
              | false => rfl
              | true =>
                have := ((HY.out.1 rfl).2.1 k hlt).1
                rw [HX.out] at this
                exact absurd this h4
            subst hn
            have h4' : ¬ (ks.length : Int) = 4 := by omega
            go_wp2
            go_ret
            exact ⟨rfl, BW.out⟩
          have h4' : (ks.length : Int) = 4 := by omega
          have H4 := hide h4
          clear h4
          go_wp2
          go_roundw
          case rel =>
            refine ⟨k + 1, by omega, by go_num, fun i hi => ?_, BB.out⟩
            by_cases e : i = k
            · subst e; rw [HX.out]; exact ⟨H4.out, HJ.out⟩
            · exact HA.out i (by omega)
          case measure => simp [intOf]; omega
    · obtain rfl : k = m.length := by omega
      have V1 := hide (V.out.below B.out)
      have R1 := hide (R.out.below B.out)
      obtain ⟨p0, p1⟩ := (X0.out.below B.out).c2
      go_wp2
      go_loop [67] (fun vi => ∃ j : Nat, j ≤ vs.length ∧ vi = .int .i64 j ∧ ∀ i, i < j → kB false m m.length (vs.getD i 0)) (fun vi => vs.length - (intOf vi).toNat)
      case atStart => exact ⟨0, Nat.zero_le _, rfl, fun i hi => by omega⟩
      case round =>
        obtain ⟨j, hj, rfl, hjj⟩ := hrel
        have HJ := hide hjj
        clear hjj
        by_cases hlj : j < vs.length
        · obtain ⟨_, _, e1, _, _, h3⟩ := V1.out
          simp only [Value.slice.injEq] at e1
          obtain ⟨rfl, _, rfl⟩ := e1
          rcases h3 with rfl | ⟨hb, ho, rfl, _, hc⟩
          · simp at hlj
          have hc1 := hc j hlj
          clear hc
          obtain ⟨x, hxx⟩ : ∃ x, x = vs.getD j 0 := ⟨_, rfl⟩
          rw [← hxx] at hc1
          have XX := hide hxx
          have hlj' : (j : Int) < (vs.length : Int) := by omega
          clear hxx
          have NO : Hid (¬ kB false m m.length x → y = false) := by
            show _ → _
            intro hn
            cases y with
            | false => rfl
            | true => exact absurd (by rw [XX.out]; exact (HY.out.1 rfl).2.2 j hlj) hn
          by_cases hx1 : x = -1
          · have HT : Hid (kB false m m.length x) := .inl hx1
            go_wp2
            go_round
            case rel =>
              refine ⟨j + 1, by omega, by go_num, fun i hi => ?_⟩
              by_cases e : i = j
              · subst e; rw [← XX.out]; exact HT.out
              · exact HJ.out i (by omega)
            case measure => simp [intOf]; omega
          by_cases hx0 : 0 ≤ x
          case neg =>
            have hn := NO.out (fun h => h.elim hx1 (fun h => hx0 h.1))
            subst hn
            have hx0' : x < 0 := by omega
            go_wp2
            go_ret
            exact ⟨rfl, BR.out⟩
          obtain ⟨n, rfl⟩ : ∃ n : Nat, x = (n : Int) := ⟨x.toNat, by omega⟩
          by_cases hxk : n < m.length
          case neg =>
            have hn := NO.out (fun h => h.elim hx1 (fun h => hxk (by have := h.2.1; omega)))
            subst hn
            have hx0' : ¬ (n : Int) < 0 := by omega
            have hxk' : (m.length : Int) ≤ (n : Int) := by omega
            go_wp2
            go_ret
            exact ⟨rfl, BR.out⟩
          obtain ⟨b', off', u', ks', z', rfl, hx', _, d0, d1⟩ := R1.out.at n hxk
          have hx0' : ¬ (n : Int) < 0 := by omega
          have hxk' : ¬ (m.length : Int) ≤ (n : Int) := by omega
          have hnm : (n : Int) < (m.length : Int) := by omega
          have OK : Hid (z' = false → kB false m m.length (n : Int)) := by
            show _ → _
            intro e
            exact .inr ⟨by omega, by omega, by rw [Int.toNat_natCast, hx']; exact e⟩
          have NK : Hid (z' = true → ¬ kB false m m.length (n : Int)) := by
            show _ → _
            intro e h
            have := (h.resolve_left (by omega)).2.2
            rw [Int.toNat_natCast, hx', e] at this
            simp at this
          clear hx' d0
          cases z' with
          | true =>
            have hn := NO.out (NK.out rfl)
            subst hn
            go_wp2
            go_ret
            exact ⟨rfl, BR.out⟩
          | false =>
            go_wp2
            go_round
            case rel =>
              refine ⟨j + 1, by omega, by go_num, fun i hi => ?_⟩
              by_cases e : i = j
              · subst e; rw [← XX.out]; exact OK.out rfl
              · exact HJ.out i (by omega)
            case measure => simp [intOf]; omega
        · obtain rfl : j = vs.length := by omega
          by_cases h200 : m.length ≤ 200
          case neg =>
            have hn : y = false := by
              cases y with
              | false => rfl
              | true => exact absurd (HY.out.1 rfl).1.1 h200
            subst hn
            have h200' : ¬ (m.length : Int) ≤ 200 := by omega
            have h200b : decide ((m.length : Int) ≤ 200) = false := decide_eq_false h200'
            go_wp2
            go_ret
            exact ⟨rfl, BR.out⟩
          have h200' : (m.length : Int) ≤ 200 := by omega
          by_cases h40 : vs.length ≤ 40
          · have hn : y = true := HY.out.2 ⟨⟨h200, h40⟩, HA.out, HJ.out⟩
            subst hn
            have h40' : (vs.length : Int) ≤ 40 := by omega
            go_wp2
            go_ret
            exact ⟨ret_bolP (by simp), BR.out⟩
          · have hn : y = false := by
              cases y with
              | false => rfl
              | true => exact absurd (HY.out.1 rfl).1.2 h40
            subst hn
            have h40' : ¬ (vs.length : Int) ≤ 40 := by omega
            go_wp2
            go_ret
            exact ⟨ret_bolP (by simp), BR.out⟩
end Go.Proofs.Ythmijjcddjlebaa
