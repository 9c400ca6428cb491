/-
  The places that a rule tells, by division: the program's rootPlaces, call by call. The program's table of rests must hold its seven numbers.
-/
import Derived.Test.YtogopakmebiomaaDoorRoots
import Derived.Deep.LoopGhost
import Derived.WalkMore
namespace Go.Proofs.YtogopakmebiomaaDoor
open Go.RowKit
namespace Gf

theorem Lft.div {c r : List Int} {p : Nat} (h : Lft c r p) (hp : p < 24) (h2 : 2 ≤ r.length) : ∃ Q S, divR r (dvP p) = (Q, S, true) ∧ Q.length = r.length - 1 ∧
    (S.length = 0 → Lft c Q (p + 1) ∧ plcN c (p + 1) = plcN c p ++ [(p : Int)]) ∧ (S.length ≠ 0 → Lft c r (p + 1) ∧ plcN c (p + 1) = plcN c p) := by
  obtain ⟨d1, d2, d3, d4, d5⟩ := div_root h.good h2 hp
  refine ⟨(divR r (dvP p)).1, (divR r (dvP p)).2.1, ?_, d2, fun h0 => h.take hp h2 h0, fun h0 => h.skip hp (fun e => h0 (d4.2 e))⟩
  rw [← d1]
set_option maxRecDepth 100000 in
set_option maxHeartbeats 6400000 in
theorem rootPlaces_calls (v : Value) (c : List Int) (L : Nat) (w : World) (hT : Tab w) (h : Rd w v c) (hg : goodP c = true) (h1 : 1 ≤ c.length) (hL : L ≤ 24) :
    Calls Tryd.prog 91 #[v, .int .i64 L] w fun e w' => ∃ v', e = .returned (.tuple #[v', .bool (rtR c L).2]) ∧ Own w' w.heap.size v' (rtR c L).1 ∧ Below w.heap.size w w' := by
  have T := hide hT
  have R := hide h
  have ST := hide (Lft.start hg h1)
  have hlc := goodP_len hg
  clear hT h hg
  go_enter Tryd.func91, Tryd.ntmps91
  go_wp2
  go_step3
  go_wp2
  go_step3
  go_wp2
  go_loopg [0, 6, 7] c.length (fun g vr vo vn wr => ∃ (r : List Int) (p : Nat), r.length ≤ g + 1 ∧ p ≤ L ∧ vn = .int .i64 p ∧ Lft c r p ∧ Rd wr vr r ∧ Own wr w.heap.size vo (plcN c p) ∧ Below w.heap.size w wr)
  case atStart =>
    refine ⟨c, 0, by omega, Nat.zero_le _, rfl, ST.out, R.out.below ((Below.refl _ _).alloc (Nat.le_refl _) _), ?_, (Below.refl _ _).alloc (Nat.le_refl _) _⟩
    exact World.ownsRow_lit w #[] 0 (Nat.le_refl _) (by decide) (by rfl)
  case round =>
    obtain ⟨r, p, hgk, hp, rfl, hlf, hr, ho, hb⟩ := hrel
    have LF := hide hlf
    have RR := hide hr
    have O := hide ho
    have B := hide hb
    obtain ⟨ra, rc, rfl, _, _, _⟩ := hr
    have hpos := hlf.pos
    have hsum := hlf.sum
    have hrl : r.length ≤ 40 := by omega
    clear hlf ho hb hsum
    by_cases h2 : 2 ≤ r.length
    · have h2' : (1 : Int) < (r.length : Int) := by omega
      obtain ⟨W1, rfl⟩ : ∃ W1, W1 = wr := ⟨_, rfl⟩
      obtain ⟨g, hgs⟩ : ∃ g, gk = g + 1 := ⟨gk - 1, by omega⟩
      subst hgs
      go_wp2
      obtain ⟨VO, hVO⟩ : ∃ V, V = u6 := ⟨_, rfl⟩
      subst hVO
      go_loopg [0, 6, 7, 8] L (fun g2 vr2 vo2 vn2 vp wr => ∃ q : Nat, vr2 = .slice ra r.length rc ∧ vo2 = VO ∧ vn2 = .int .i64 p ∧ L ≤ q + g2 ∧ p ≤ q ∧ q ≤ L ∧ vp = .int .i64 q ∧ Lft c r q ∧ plcN c q = plcN c p ∧ Below W1.heap.size W1 wr)
      case atStart => exact ⟨p, rfl, rfl, rfl, by omega, Nat.le_refl _, hp, rfl, LF.out, rfl, Below.refl _ _⟩
      case round =>
        obtain ⟨q, rfl, hvo2, rfl, hg2, hpq, hqL, rfl, hlf, hpl, hb⟩ := hrel
        subst hvo2
        have LQ := hide hlf
        have PL := hide hpl
        have BQ := hide hb
        clear hlf hpl hb
        by_cases hlt : q < L
        · have hlt' : (q : Int) < (L : Int) := by omega
          have BW := hide (B.out.trans (BQ.out.mono B.out.size))
          go_wp2_with fail
          refine (powE_calls 2 q _ (T.out.below BW.out) (by omega) (by omega) (by omega) (by omega)).mono ?_
          rintro e w' ⟨rfl, rfl⟩
          rw [Int.toNat_natCast]
          obtain ⟨x, hx⟩ : ∃ x, x = pow 2 q := ⟨_, rfl⟩
          rw [show pow (Int.toNat 2) q = x from hx.symm]
          have HRD : Hid (∀ w2 : World, Rd (w2.alloc (.cells #[.int .i64 1, .int .i64 (x : Int)] 3)) (.slice (some ⟨w2.heap.size, 0, none⟩) 2 2) (dvP q)) := fun w2 => by
            have := rd_two (w := w2) (y := 1) (z := (x : Int))
            rw [hx] at this ⊢
            exact this
          obtain ⟨Q, S, hQS, hQl, hyes, hno⟩ := LQ.out.div (show q < 24 by omega) h2
          have HQS := hide hQS
          have HQL := hide hQl
          have YES := hide hyes
          have NO := hide hno
          clear hx hQS hyes hno hQl
          have DC : Hid (Calls Tryd.prog 74 #[.slice ra r.length rc, .slice (some ⟨wr.heap.size, 0, none⟩) 2 2] (wr.alloc (.cells #[.int .i64 1, .int .i64 (x : Int)] 3)) fun e w' => ∃ v1 v2, e = .returned (.tuple #[v1, v2, .bool true]) ∧ Two (wr.alloc (.cells #[.int .i64 1, .int .i64 (x : Int)] 3)) w' v1 v2 Q S) := by
            have := divPoly_calls _ _ r (dvP q) _ ((T.out.below BW.out).below ((Below.refl _ _).alloc (Nat.le_refl _) _)) ((RR.out.below BQ.out).below ((Below.refl _ _).alloc (Nat.le_refl _) (.cells #[.int .i64 1, .int .i64 (x : Int)] 3))) (HRD.out wr)
            rw [HQS.out] at this
            exact this
          go_wp2_with fail
          refine DC.out.mono ?_
          rintro e w3 ⟨v1, v2, rfl, ho1, ho2, _, hb3⟩
          have B3 : Hid (Below W1.heap.size W1 w3) := (BQ.out.alloc BQ.out.size _).trans (hb3.mono (by have := BQ.out.size; simp; omega))
          have OQ := hide ho1
          have hsW := BQ.out.size
          obtain ⟨a2, c2, hv2, _, _, _⟩ := ho2.rd
          subst hv2
          obtain ⟨a1, c1, hv1, _, _, _⟩ := ho1.rd
          subst hv1
          clear ho1 ho2 hb3
          by_cases h0 : S.length = 0
          · have t0 : ((S.length : Int) == 0) = true := by simp [h0]
            obtain ⟨l1, l2⟩ := YES.out h0
            rw [PL.out] at l2
            have L1 := hide l1
            have hun := plcN_le c p
            obtain ⟨l, hl⟩ : ∃ l, l = plcN c p := ⟨_, rfl⟩
            have O3 := hide (O.out.below B3.out)
            rw [← hl] at l2 O3 hun
            have L2 := hide l2
            have B4 := hide (B.out.trans (B3.out.mono B.out.size))
            clear l1 l2 hl h0
            go_wp2_with (at_builtin; refine wpList_append_rd rfl (.tmp 34) (.tmp 36) rfl w.heap.size _ l.length l [((q : Nat) : Int)] rfl (O3.out.alloc _) _ rfl rd_single2 (by simp; omega) (by have := B4.out.size; simp; omega) ?_)
            intro v' w4 ho4 hg4
            have hb4 : Below w.heap.size w w4 := (B4.out.alloc B4.out.size _).grown hg4 (by have := B4.out.size; simp; omega) (fun i hi => (O3.out.lt i hi).1)
            rw [← L2.out] at ho4
            have O4 := hide ho4
            have B5 := hide hb4
            have R4 : Hid (Rd w4 (.slice a1 Q.length c1) Q) := by
              refine Own.rd (base := (wr.alloc (.cells #[.int .i64 1, .int .i64 (x : Int)] 3)).heap.size) (World.ownsRow.kept (OQ.out.alloc _) hg4 ?_)
              cases hv : (Value.slice a1 Q.length c1).ownBlock with
              | none => exact .inl rfl
              | some j =>
                right
                intro e
                have g1 := (OQ.out.lt j hv).1
                have g2 := (O.out.lt j e.symm).2
                simp at g1
                omega
            clear ho4 hg4 hb4
            have hQl : Q.length ≤ g + 1 := by have := HQL.out; omega
            go_wp2
            go_roundg g
            case measure => omega
            case rel => exact ⟨Q, q + 1, hQl, by omega, by go_num, L1.out, R4.out, O4.out, B5.out⟩
          · have t0 : ((S.length : Int) == 0) = false := by simp; intro e; simp [e] at h0
            obtain ⟨l1, l2⟩ := NO.out h0
            rw [PL.out] at l2
            have L1 := hide l1
            have L2 := hide l2
            clear l1 l2
            go_wp2
            go_roundg (L - (q + 1))
            case measure => omega
            case rel => exact ⟨q + 1, rfl, rfl, rfl, by omega, by omega, by omega, by go_num, L1.out, L2.out, B3.out⟩
        · obtain rfl : q = L := by omega
          have FN := hide (LQ.out.fail h2)
          have B4 := hide (B.out.trans (BQ.out.mono B.out.size))
          go_wp2
          try rw [Exit.noGoto_ret]
          go_ret2
          rw [FN.out]
          exact ⟨_, rfl, own_nil _ _, B4.out⟩
    · have h2' : ¬ (1 : Int) < (r.length : Int) := by omega
      have FN := hide (LF.out.done (L := L) (by omega) hp hL)
      go_wp2
      try rw [Exit.noGoto_ret]
      go_ret2
      rw [FN.out]
      exact ⟨_, rfl, O.out, B.out⟩
end Gf
end Go.Proofs.YtogopakmebiomaaDoor
