/-
  Nodes and roots as they should be: areNodes of the program and l10Nodes of the model, call by call. Each contract says what it asks.
-/
import Derived.Test.YtakhggnbhjoojaaGna
namespace Go.Proofs.Ytakhggnbhjoojaa
open Go.RowKit
set_option linter.unusedVariables false

theorem cell_lt {w : World} {b p : Nat} {x : Value} (h : w.cell? ⟨b, p, none⟩ = some x) : b < w.heap.size := World.block_lt_of_cell? w _ h
theorem cell_below {w w' : World} {b p : Nat} {x : Value} (h : w.cell? ⟨b, p, none⟩ = some x) (hb : Below w.heap.size w w') : w'.cell? ⟨b, p, none⟩ = some x := (hb.cell (cell_lt h)).trans h

set_option maxRecDepth 100000 in
set_option maxHeartbeats 1600000 in
theorem areNodes_calls (v : Value) (m : List Nd) (w : World) (h : RdN w v m) :
    Calls Try.prog 81 #[v] w fun e w' => e = .returned (.bool (decide (m.length ≤ 14 ∧ okNs m))) ∧ Below w.heap.size w w' := by
  have R := hide h
  obtain ⟨a, cap, rfl, h1, h2, h3⟩ := h
  have hm : m.length ≤ maxLen := by omega
  have hcap : cap ≤ maxLen := h2.1
  unfold maxLen at hm hcap
  clear h2 h3
  by_cases h14 : m.length ≤ 14
  case neg =>
    rw [decide_eq_false (fun h => h14 h.1)]
    have h14' : (14 : Int) < (m.length : Int) := by omega
    go_enter Try.func81, Try.ntmps81
    go_wp2
    go_ret
    exact ⟨rfl, Below.refl _ _⟩
  have h14' : ¬ (14 : Int) < (m.length : Int) := by omega
  go_enter Try.func81, Try.ntmps81
  go_wp2
  go_loopw [10] (fun vi wr => ∃ k : Nat, k ≤ m.length ∧ vi = .int .i64 k ∧ (∀ i, i < k → okN m i (m.getD i nd0)) ∧ Below w.heap.size w wr) (fun vi _ => m.length - (intOf vi).toNat)
  case atStart => exact ⟨0, Nat.zero_le _, rfl, fun i hi => by omega, Below.refl _ _⟩
  case round =>
    obtain ⟨k, hk, rfl, hall, hb⟩ := hrel
    have HA := hide hall
    have B := hide hb
    clear hall hb
    by_cases hlt : k < m.length
    · obtain ⟨b, off, u, ks, z, rfl, hx, hu, c0, c1⟩ := (R.out.below B.out).at k hlt
      have HX := hide hx
      have U := hide hu
      obtain ⟨ua, uc, rfl, _, _⟩ := U.out.slc
      obtain ⟨w1, hw1⟩ : ∃ w1, w1 = wr.alloc (.cells #[.slice ua ks.length uc, .bool z] 84) := ⟨_, rfl⟩
      have b1 : Below wr.heap.size wr w1 := by rw [hw1]; exact below_box _ _
      have x1 : BoxAt w1 wr.heap.size #[.slice ua ks.length uc, .bool z] 84 := by rw [hw1]; exact BoxAt.new _ _ _
      have B1 := hide b1
      have X1 := hide x1
      have W1 := hide hw1
      have hlt' : (k : Int) < (m.length : Int) := by omega
      have hk0 : (0 : Int) ≤ (k : Int) := by omega
      have hkm : (k : Int) ≤ (m.length : Int) := by omega
      have hkc : (k : Int) ≤ (cap : Int) := by omega
      have RT := hide ((R.out.below (B.out.trans (b1.mono B.out.size))).take k hk)
      have U1 := hide (U.out.below b1)
      have F : Hid (∀ w', Below w1.heap.size w1 w' → w'.cell? ⟨wr.heap.size, 0, none⟩ = some (.slice ua ks.length uc) ∧ w'.cell? ⟨wr.heap.size, 1, none⟩ = some (.bool z)) := fun w' hb => (X1.out.below hb).c2
      clear hx hu b1 x1 hw1
      obtain ⟨y, hy⟩ : ∃ y, decide (okN (m.take k) (m.take k).length (ks, z)) = y := ⟨_, rfl⟩
      have HY := hide hy
      have YE : Hid (y = true ↔ okN m k (m.getD k nd0)) := by
        show _ ↔ _
        rw [← hy, HX.out, decide_eq_true_iff]
        exact okN_take m k (ks, z) hk
      clear hy
      go_wp2
      rw [← W1.out]
      go_region_held3 (fun w' => w'.cell? ⟨wr.heap.size, 0, none⟩ = some (.slice ua ks.length uc) ∧ w'.cell? ⟨wr.heap.size, 1, none⟩ = some (.bool z)) (first | exact F.out _ (Below.refl _ _).drew | exact F.out _ B2.out)
        ((go_at_call 119; refine (isNodeBehind_calls _ _ (m.take k) ks z _ (RT.out.below (Below.refl _ _).drew) (U1.out.below (Below.refl _ _).drew)).mono ?_; rw [HY.out]; rintro e' wr7 ⟨rfl, b7⟩; have B2 := hide ((Below.refl w1.heap.size w1).drew.trans b7); clear b7))
      have BB := hide (B.out.trans ((B1.out.trans (B2.out.mono B1.out.size)).mono B.out.size))
      cases y with
      | true =>
        go_wp2
        go_roundw
        case rel =>
          refine ⟨k + 1, by omega, by go_num, fun i hi => ?_, BB.out⟩
          by_cases e : i = k
          · subst e; exact YE.out.1 rfl
          · exact HA.out i (by omega)
        case measure => simp [intOf]; omega
      | false =>
        go_wp2
        go_ret
        refine ⟨ret_bol ?_, BB.out⟩
        symm
        exact decide_eq_false (fun h => absurd (YE.out.2 (h.2 k hlt)) (by simp))
    · obtain rfl : k = m.length := by omega
      go_wp2
      go_ret
      exact ⟨ret_bol (decide_eq_true ⟨h14, HA.out⟩).symm, B.out⟩

set_option maxRecDepth 100000 in
set_option maxHeartbeats 3200000 in
theorem l10Nodes_calls (v u : Value) (m : List Nd) (rs : List Int) (w : World) (h : RdN w v m) (hu : Rd w u rs) :
    Calls Try.prog 66 #[v, u] w fun e w' => e = .returned (.bool (decide (okG m rs))) ∧ Below w.heap.size w w' := by
  have R := hide h
  have V := hide hu
  obtain ⟨a, cap, rfl, h1, h2, h3⟩ := h
  have hm : m.length ≤ maxLen := by omega
  obtain ⟨ra, rc, rfl, hr1, hr2⟩ := hu.slc
  have hrm : rs.length ≤ maxLen := by omega
  unfold maxLen at hm hrm
  clear h1 h2 h3 hu hr1 hr2
  obtain ⟨y, hy⟩ : ∃ y, decide (okG m rs) = y := ⟨_, rfl⟩
  rw [hy]
  have HY : Hid (y = true ↔ okG m rs) := by
    show _ ↔ _
    rw [← hy, decide_eq_true_iff]
  clear hy
  go_enter Try.func66, Try.ntmps66
  go_wp2
  go_loopw [13] (fun vi wr => ∃ k : Nat, k ≤ m.length ∧ vi = .int .i64 k ∧ (∀ i, i < k → okN m i (m.getD i nd0)) ∧ Below w.heap.size w wr) (fun vi _ => m.length - (intOf vi).toNat)
  case atStart => exact ⟨0, Nat.zero_le _, rfl, fun i hi => by omega, Below.refl _ _⟩
  case round =>
    obtain ⟨k, hk, rfl, hall, hb⟩ := hrel
    have HA := hide hall
    have B := hide hb
    clear hall hb
    by_cases hlt : k < m.length
    · obtain ⟨b, off, hu0, ks, z, rfl, hx, hu, c0, c1⟩ := (R.out.below B.out).at k hlt
      have HX := hide hx
      have U := hide hu
      obtain ⟨ua, uc, rfl, hul, hum⟩ := U.out.slc
      obtain ⟨w1, hw1⟩ : ∃ w1, w1 = wr.alloc (.cells #[.slice ua ks.length uc, .bool z] 84) := ⟨_, rfl⟩
      have b1 : Below wr.heap.size wr w1 := by rw [hw1]; exact below_box _ _
      have x1 : BoxAt w1 wr.heap.size #[.slice ua ks.length uc, .bool z] 84 := by rw [hw1]; exact BoxAt.new _ _ _
      have BB := hide (B.out.trans (b1.mono B.out.size))
      have X1 := hide x1
      have W1 := hide hw1
      have hlt' : (k : Int) < (m.length : Int) := by omega
      have R1 := hide (R.out.below BB.out)
      have U1 := hide (U.out.below b1)
      have hkl : ks.length ≤ 9223372036854775807 := by unfold maxLen at hum; omega
      clear hx hu b1 x1 hw1 hul hum
      go_wp2
      rw [← W1.out]
      go_loop [21] (fun vi => ∃ j : Nat, j ≤ ks.length ∧ vi = .int .i64 j ∧ ∀ i, i < j → okH m k (ks.getD i 0)) (fun vi => ks.length - (intOf vi).toNat)
      case atStart => exact ⟨0, Nat.zero_le _, rfl, fun i hi => by omega⟩
      case round =>
        obtain ⟨j, hj, rfl, hjj⟩ := hrel
        have HJ := hide hjj
        clear hjj
        by_cases hlj : j < ks.length
        · obtain ⟨_, _, e1, _, _, h3⟩ := U1.out
          simp only [Value.slice.injEq] at e1
          obtain ⟨rfl, _, rfl⟩ := e1
          rcases h3 with rfl | ⟨hb, ho, rfl, _, hc⟩
          · simp at hlj
          have hc1 := hc j hlj
          clear hc
          obtain ⟨x, hxx⟩ : ∃ x, x = ks.getD j 0 := ⟨_, rfl⟩
          rw [← hxx] at hc1
          have XX := hide hxx
          have hlj' : (j : Int) < (ks.length : Int) := by omega
          clear hxx
          have NO : Hid (¬ okH m k x → y = false) := by
            show _ → _
            intro hn
            cases y with
            | false => rfl
            | true =>
              have := ((HY.out.1 rfl).1.2 k hlt).1 j (by rw [HX.out]; exact hlj)
              rw [HX.out] at this
              exact absurd (by rw [XX.out]; exact this) hn
          by_cases hx0 : 0 ≤ x
          case neg =>
            have hn := NO.out (fun h => hx0 h.1)
            subst hn
            have hx0' : x < 0 := by omega
            go_wp2
            go_ret
            exact ⟨rfl, BB.out⟩
          obtain ⟨n, rfl⟩ : ∃ n : Nat, x = (n : Int) := ⟨x.toNat, by omega⟩
          by_cases hxk : n < k
          case neg =>
            have hn := NO.out (fun h => hxk (by have := h.2.1; omega))
            subst hn
            have hx0' : ¬ (n : Int) < 0 := by omega
            have hxk' : (k : Int) ≤ (n : Int) := by omega
            go_wp2
            go_ret
            exact ⟨rfl, BB.out⟩
          obtain ⟨b', off', u', ks', z', ea, hx', _, d0, d1⟩ := R1.out.at n (by omega)
          obtain ⟨rfl, rfl⟩ : b = b' ∧ off = off' := by simpa using ea
          have hx0' : ¬ (n : Int) < 0 := by omega
          have hxk' : ¬ (k : Int) ≤ (n : Int) := by omega
          have hnm : (n : Int) < (m.length : Int) := by omega
          have OK : Hid (z' = false → okH m k (n : Int)) := by
            show _ → _
            intro e
            exact ⟨by omega, by omega, by rw [Int.toNat_natCast, hx']; exact e⟩
          have NK : Hid (z' = true → ¬ okH m k (n : Int)) := by
            show _ → _
            intro e h
            have := h.2.2
            rw [Int.toNat_natCast, hx', e] at this
            simp at this
          clear hx' ea d0
          cases z' with
          | true =>
            have hn := NO.out (NK.out rfl)
            subst hn
            go_wp2
            go_ret
            exact ⟨rfl, BB.out⟩
          | false =>
            go_wp2
            go_round
            case rel =>
              refine ⟨j + 1, by omega, by go_num, fun i hi => ?_⟩
              by_cases e : i = j
              · subst e; rw [← XX.out]; exact OK.out rfl
              · exact HJ.out i (by omega)
            case measure => simp [intOf]; omega
        · obtain rfl : j = ks.length := by omega
          obtain ⟨c2, c3⟩ := X1.out.c2
          have NO : Hid (¬ (ks.length ≤ 6 ∧ (z = true → ks.length = 0)) → y = false) := by
            show _ → _
            intro hn
            cases y with
            | false => rfl
            | true =>
              have := ((HY.out.1 rfl).1.2 k hlt).2
              rw [HX.out] at this
              exact absurd this hn
          by_cases h6 : ks.length ≤ 6
          case neg =>
            have hn := NO.out (fun h => h6 h.1)
            subst hn
            have h6' : (6 : Int) < (ks.length : Int) := by omega
            go_wp2
            go_ret
            exact ⟨rfl, BB.out⟩
          have h6' : ¬ (6 : Int) < (ks.length : Int) := by omega
          cases z with
          | false =>
            go_wp2
            go_roundw
            case rel =>
              refine ⟨k + 1, by omega, by go_num, fun i hi => ?_, BB.out⟩
              by_cases e : i = k
              · subst e; rw [HX.out]; exact ⟨HJ.out, h6, fun e => by simp at e⟩
              · exact HA.out i (by omega)
            case measure => simp [intOf]; omega
          | true =>
            by_cases h0 : ks.length = 0
            · have h0' : ¬ (0 : Int) < (ks.length : Int) := by omega
              have H0 := hide h0
              clear h0
              go_wp2
              go_roundw
              case rel =>
                refine ⟨k + 1, by omega, by go_num, fun i hi => ?_, BB.out⟩
                by_cases e : i = k
                · subst e; rw [HX.out]; exact ⟨HJ.out, h6, fun _ => H0.out⟩
                · exact HA.out i (by omega)
              case measure => simp [intOf]; omega
            · have hn := NO.out (fun h => h0 (h.2 rfl))
              subst hn
              have h0' : (0 : Int) < (ks.length : Int) := by omega
              go_wp2
              go_ret
              exact ⟨rfl, BB.out⟩
    · obtain rfl : k = m.length := by omega
      have V1 := hide (V.out.below B.out)
      have R1 := hide (R.out.below B.out)
      go_wp2
      go_loop [57] (fun vi => ∃ j : Nat, j ≤ rs.length ∧ vi = .int .i64 j ∧ ∀ i, i < j → okH m m.length (rs.getD i 0)) (fun vi => rs.length - (intOf vi).toNat)
      case atStart => exact ⟨0, Nat.zero_le _, rfl, fun i hi => by omega⟩
      case round =>
        obtain ⟨j, hj, rfl, hjj⟩ := hrel
        have HJ := hide hjj
        clear hjj
        by_cases hlj : j < rs.length
        · obtain ⟨_, _, e1, _, _, h3⟩ := V1.out
          simp only [Value.slice.injEq] at e1
          obtain ⟨rfl, _, rfl⟩ := e1
          rcases h3 with rfl | ⟨hb, ho, rfl, _, hc⟩
          · simp at hlj
          have hc1 := hc j hlj
          clear hc
          obtain ⟨x, hxx⟩ : ∃ x, x = rs.getD j 0 := ⟨_, rfl⟩
          rw [← hxx] at hc1
          have XX := hide hxx
          have hlj' : (j : Int) < (rs.length : Int) := by omega
          clear hxx
          have NO : Hid (¬ okH m m.length x → y = false) := by
            show _ → _
            intro hn
            cases y with
            | false => rfl
            | true => exact absurd (by rw [XX.out]; exact (HY.out.1 rfl).2.2 j hlj) hn
          by_cases hx0 : 0 ≤ x
          case neg =>
            have hn := NO.out (fun h => hx0 h.1)
            subst hn
            have hx0' : x < 0 := by omega
            go_wp2
            go_ret
            exact ⟨rfl, B.out⟩
          obtain ⟨n, rfl⟩ : ∃ n : Nat, x = (n : Int) := ⟨x.toNat, by omega⟩
          by_cases hxk : n < m.length
          case neg =>
            have hn := NO.out (fun h => hxk (by have := h.2.1; omega))
            subst hn
            have hx0' : ¬ (n : Int) < 0 := by omega
            have hxk' : (m.length : Int) ≤ (n : Int) := by omega
            go_wp2
            go_ret
            exact ⟨rfl, B.out⟩
          obtain ⟨b', off', u', ks', z', rfl, hx', _, d0, d1⟩ := R1.out.at n hxk
          have hx0' : ¬ (n : Int) < 0 := by omega
          have hxk' : ¬ (m.length : Int) ≤ (n : Int) := by omega
          have hnm : (n : Int) < (m.length : Int) := by omega
          have OK : Hid (z' = false → okH m m.length (n : Int)) := by
            show _ → _
            intro e
            exact ⟨by omega, by omega, by rw [Int.toNat_natCast, hx']; exact e⟩
          have NK : Hid (z' = true → ¬ okH m m.length (n : Int)) := by
            show _ → _
            intro e h
            have := h.2.2
            rw [Int.toNat_natCast, hx', e] at this
            simp at this
          clear hx' d0
          cases z' with
          | true =>
            have hn := NO.out (NK.out rfl)
            subst hn
            go_wp2
            go_ret
            exact ⟨rfl, B.out⟩
          | false =>
            go_wp2
            go_round
            case rel =>
              refine ⟨j + 1, by omega, by go_num, fun i hi => ?_⟩
              by_cases e : i = j
              · subst e; rw [← XX.out]; exact OK.out rfl
              · exact HJ.out i (by omega)
            case measure => simp [intOf]; omega
        · obtain rfl : j = rs.length := by omega
          by_cases h14 : m.length ≤ 14
          case neg =>
            have hn : y = false := by
              cases y with
              | false => rfl
              | true => exact absurd (HY.out.1 rfl).1.1 h14
            subst hn
            have h14' : ¬ (m.length : Int) ≤ 14 := by omega
            have h14b : decide ((m.length : Int) ≤ 14) = false := decide_eq_false h14'
            go_wp2
            go_ret
            exact ⟨rfl, B.out⟩
          have h14' : (m.length : Int) ≤ 14 := by omega
          by_cases h6 : rs.length ≤ 6
          · have hn : y = true := HY.out.2 ⟨⟨h14, HA.out⟩, h6, HJ.out⟩
            subst hn
            have h6' : (rs.length : Int) ≤ 6 := by omega
            go_wp2
            go_ret
            exact ⟨ret_bol (by simp), B.out⟩
          · have hn : y = false := by
              cases y with
              | false => rfl
              | true => exact absurd (HY.out.1 rfl).2.1 h6
            subst hn
            have h6' : ¬ (rs.length : Int) ≤ 6 := by omega
            go_wp2
            go_ret
            exact ⟨ret_bol (by simp), B.out⟩
end Go.Proofs.Ytakhggnbhjoojaa
