/-
  SolveBy: the program's function and its model's, at all arguments. The program's table of rests must hold its seven numbers where the program's own function is called.
-/
import Derived.Test.YtogopakmebiomaaDoorCol
namespace Go.Proofs.YtogopakmebiomaaDoor
open Go.RowKit
open Gf (ci nat ciM Sh AllLt dotTo solN identN colN colL)

def slvOk (m : List (List Int)) (v : List Int) : Bool := sqOk m && (decide (v.length = m.length) && v.all Gf.elOk)
def slvR (m : List (List Int)) (v : List Int) : List Int × Bool := if slvOk m v = true then (ci (mulC (solN (m.map nat) (identN m.length)).1 (nat v)), (solN (m.map nat) (identN m.length)).2) else ([], false)
theorem slvR_len (m : List (List Int)) (v : List Int) : (slvR m v).1.length ≤ 1048576 := by
  unfold slvR
  split
  · rename_i h
    simp only [slvOk, Bool.and_eq_true] at h
    have f := (solN_sh (sh_sq h.1) (Gf.sh_ident m.length)).1
    have h8 := (goodM_rows (sqOk_facts h.1).1).2.1
    simp only [Gf.ci_length, mulC, List.length_map]
    omega
  · simp
theorem colI_ciM (v : List Nat) : colI (ci v) = ciM (colN v) := by
  unfold colI Gf.ci Gf.ciM Gf.colN
  rw [List.map_map, List.map_map]
  rfl
theorem col_mul (X : List (List Nat)) (V : List Nat) : colAt (ciM (X.map (colL V V.length))) 0 = ci (mulC X V) := by
  unfold colAt Gf.ciM Gf.ci mulC
  rw [List.map_map, List.map_map, List.map_map]
  rfl
theorem sh_col {V : List Nat} {n : Nat} (hl : V.length = n) (hV : AllLt V) : Sh (colN V) n 1 := by
  refine ⟨by simp [Gf.colN, hl], fun i hi => ?_, fun i hi j => ?_⟩
  · simp [Gf.colN, List.getD_eq_getElem?_getD, hl, hi]
  · have e : (colN V).getD i [] = [V.getD i 0] := by simp [Gf.colN, List.getD_eq_getElem?_getD, hl, hi]
    rw [e]
    cases j with
    | zero => exact hV i
    | succ j => simp

set_option maxRecDepth 100000 in
set_option maxHeartbeats 1600000 in
theorem solveBy_calls (mv vv : Value) (m : List (List Int)) (v : List Int) (w : World) (hT : Gf.Tab w) (hm : RdM w mv m) (hv : Rd w vv v) :
    Calls Tryd.prog 134 #[mv, vv] w fun e w' => ∃ v', e = .returned (.tuple #[v', .bool (slvR m v).2]) ∧ Own w' w.heap.size v' (slvR m v).1 ∧ Below w.heap.size w w' := by
  have RM := hide hm
  have RV := hide hv
  have T := hide hT
  obtain ⟨ma, mcap, rfl, _⟩ := hm
  obtain ⟨va, vcap, rfl, _⟩ := hv
  clear hT
  cases hs : sqOk m with
  | false =>
    have e : slvR m v = ([], false) := by simp [slvR, slvOk, hs]
    rw [e]
    have S := hide hs
    clear hs e
    go_enter Tryd.func134, Tryd.ntmps134
    go_wp2_with fail
    refine (isSquare_calls _ m _ RM.out).mono ?_
    rw [S.out]
    rintro e w1 ⟨rfl, hb⟩
    have B := hide hb
    clear hb
    go_wp2
    go_ret2
    exact ⟨_, rfl, World.ownsRow_nil _ _ _ _, B.out⟩
  | true =>
    have S := hide hs
    by_cases hl : v.length = m.length
    · have t1 : ((v.length : Int) != (m.length : Int)) = false := by simp; omega
      cases he : v.all Gf.elOk with
      | false =>
        have e : slvR m v = ([], false) := by simp [slvR, slvOk, he]
        rw [e]
        have E := hide he
        clear hs he e hl
        go_enter Tryd.func134, Tryd.ntmps134
        go_wp2_with fail
        refine (isSquare_calls _ m _ RM.out).mono ?_
        rw [S.out]
        rintro e w1 ⟨rfl, hb⟩
        have B := hide hb
        clear hb
        go_wp2_with fail
        refine (Gf.areElements_calls _ v _ (RV.out.below B.out)).mono ?_
        rw [E.out]
        rintro e w2 ⟨rfl, rfl⟩
        go_wp2
        go_ret2
        exact ⟨_, rfl, World.ownsRow_nil _ _ _ _, B.out⟩
      | true =>
        obtain ⟨g1, g2⟩ := sqOk_facts hs
        obtain ⟨f1, f2, _⟩ := goodM_rows g1
        obtain ⟨M, hM⟩ : ∃ M, M = m.map nat := ⟨_, rfl⟩
        have CM : Hid (ciM M = m) := by rw [hM]; exact ciM_nat g1
        have SM : Hid (Sh M m.length m.length) := by rw [hM]; exact sh_sq hs
        have VL : Hid ((nat v).length = m.length) := by show (nat v).length = m.length; rw [Gf.nat_length, hl]
        have VA : Hid (AllLt (nat v)) := Gf.nat_lt he
        have CV : Hid (ciM (colN (nat v)) = colI v) := by
          show ciM (colN (nat v)) = colI v
          rw [← colI_ciM, Gf.ci_nat he]
        obtain ⟨s, hsol⟩ : ∃ s, s = solN M (identN m.length) := ⟨_, rfl⟩
        have e : slvR m v = (ci (mulC s.1 (nat v)), s.2) := by rw [hsol, hM]; simp [slvR, slvOk, hs, he, hl]
        have hmap : solN M (colN (nat v)) = (s.1.map (colL (nat v) m.length), s.2) := by
          rw [Gf.col_ident VA.out VL.out, Gf.solN_map (Gf.lin_col VA.out) SM.out (Gf.sh_ident _), hsol]
        have hcm := col_mul s.1 (nat v)
        rw [VL.out] at hcm
        have hsl := (solN_sh SM.out (sh_col VL.out VA.out)).2
        have hsn := (solN_sh SM.out (sh_col VL.out VA.out)).1
        rw [hmap] at hsl hsn
        rw [e]
        obtain ⟨X, hX⟩ : ∃ X, X = s.1.map (colL (nat v) m.length) := ⟨_, rfl⟩
        obtain ⟨ok, hok⟩ : ∃ ok, ok = s.2 := ⟨_, rfl⟩
        rw [← hX, ← hok] at hmap
        rw [← hX] at hcm hsl hsn
        simp only [] at hsl hsn
        rw [← hcm, ← hok]
        have hbad : ok = false → X = [] := by
          intro h0
          rw [hX]
          have : s = ([], false) ∨ s.2 = true := by
            rw [hsol]
            unfold Gf.solN
            cases Gf.invTo M (identN m.length) M.length with
            | none => exact .inl rfl
            | some q => exact .inr rfl
          rcases this with h | h
          · rw [h]; rfl
          · rw [← hok, h0] at h; cases h
        have E := hide he
        have MP := hide hmap
        have SL := hide hsl
        have SN := hide hsn
        have BAD := hide hbad
        clear hs he e g1 g2 hM hsol hmap hcm hsl hsn hX hok hbad hl
        go_enter Tryd.func134, Tryd.ntmps134
        go_wp2_with fail
        refine (isSquare_calls _ m _ RM.out).mono ?_
        rw [S.out]
        rintro e w1 ⟨rfl, hb⟩
        have B := hide hb
        clear hb
        go_wp2_with fail
        refine (Gf.areElements_calls _ v _ (RV.out.below B.out)).mono ?_
        rw [E.out]
        rintro e w2 ⟨rfl, rfl⟩
        go_wp2_with fail
        refine (asColumn_calls _ v _ (RV.out.below B.out) (by have := VL.out; rw [Gf.nat_length] at this; omega)).mono ?_
        rintro e w2 ⟨v2, rfl, hm2, hb2⟩
        have B2 := hide (B.out.trans (hb2.mono B.out.size))
        have M2 := hide hm2.rd
        clear hm2 hb2
        go_wp2_with fail
        refine (solveRows_calls _ v2 M (colN (nat v)) m.length 1 _ (Gf.Tab.below T.out B2.out) (by rw [CM.out]; exact RM.out.below B2.out) (by rw [CV.out]; exact M2.out) SM.out (sh_col VL.out VA.out) f1 (by omega) (by omega) (by omega)).mono ?_
        rw [MP.out]
        rintro e w3 ⟨v3, rfl, hm3, hb3⟩
        have B3 := hide (B2.out.trans (hb3.mono B2.out.size))
        have M3 := hide hm3.rd
        clear hm3 hb3
        cases ok with
        | false =>
          have hX0 := BAD.out rfl
          have X0 := hide hX0
          clear hX0
          go_wp2
          go_ret2
          rw [X0.out]
          exact ⟨_, rfl, World.ownsRow_nil _ _ _ _, B3.out⟩
        | true =>
          go_wp2_with fail
          refine (columnOf_calls v3 (ciM X) 0 _ M3.out (by rw [Gf.ciM_length]; have := SN.out; omega) (fun i hi => by rw [Gf.ciM_length] at hi; rw [Gf.ciM_get, Gf.ci_length, (SL.out i hi).1]; omega)).mono ?_
          rintro e w4 ⟨v4, rfl, ho4, hb4⟩
          have O4 := hide (Own.mono ho4 B3.out.size)
          have B4 := hide (B3.out.trans (hb4.mono B3.out.size))
          clear ho4 hb4
          go_wp2
          go_ret2
          exact ⟨_, rfl, O4.out, B4.out⟩
    · have t1 : ((v.length : Int) != (m.length : Int)) = true := by simp; omega
      have e : slvR m v = ([], false) := by simp [slvR, slvOk, hl]
      rw [e]
      clear hs hl e
      go_enter Tryd.func134, Tryd.ntmps134
      go_wp2_with fail
      refine (isSquare_calls _ m _ RM.out).mono ?_
      rw [S.out]
      rintro e w1 ⟨rfl, hb⟩
      have B := hide hb
      clear hb
      go_wp2
      go_ret2
      exact ⟨_, rfl, World.ownsRow_nil _ _ _ _, B.out⟩

set_option maxRecDepth 100000 in
set_option maxHeartbeats 1600000 in
theorem sSolveBy_calls (mv vv : Value) (m : List (List Int)) (v : List Int) (w : World) (hm : RdM w mv m) (hv : Rd w vv v) :
    Calls Tryd.prog 132 #[mv, vv] w fun e w' => ∃ v', e = .returned (.tuple #[v', .bool (slvR m v).2]) ∧ Own w' w.heap.size v' (slvR m v).1 ∧ Below w.heap.size w w' := by
  have RM := hide hm
  have RV := hide hv
  obtain ⟨ma, mcap, rfl, _⟩ := hm
  obtain ⟨va, vcap, rfl, _⟩ := hv
  obtain ⟨inv, hinv⟩ : ∃ i, i = invR m := ⟨_, rfl⟩
  have HI := hide hinv
  obtain ⟨res, hres⟩ : ∃ r, r = slvR m v := ⟨_, rfl⟩
  rw [← hres]
  cases h2 : inv.2 with
  | false =>
    have hr : res = ([], false) := by
      rw [hres, slvR]
      split
      · rename_i h
        have hs : sqOk m = true := by simp only [slvOk, Bool.and_eq_true] at h; exact h.1
        have h3 := h2
        rw [hinv, invR, if_pos hs] at h3
        simp only [] at h3
        have : solN (m.map nat) (identN m.length) = ([], false) := by
          unfold Gf.solN at h3 ⊢
          cases hh : Gf.invTo (m.map nat) (identN m.length) (m.map nat).length with
          | none => rfl
          | some q => rw [hh] at h3; simp at h3
        rw [this]; rfl
      · rfl
    have RES := hide hr
    have I2 := hide h2
    clear hinv hres h2 hr
    go_enter Tryd.func132, Tryd.ntmps132
    go_wp2_with fail
    refine (sInvert_calls _ m _ RM.out).mono ?_
    rw [← HI.out, I2.out]
    rintro e w1 ⟨v1, rfl, hm1, hb1⟩
    have B1 := hide hb1
    clear hm1 hb1
    go_wp2
    go_ret2
    rw [RES.out]
    exact ⟨_, rfl, World.ownsRow_nil _ _ _ _, B1.out⟩
  | true =>
    have hs : sqOk m = true := by
      cases hs : sqOk m with
      | true => rfl
      | false => rw [hinv] at h2; simp [invR, hs] at h2
    have I2 := hide h2
    by_cases hl : v.length = m.length
    · have t1 : ((v.length : Int) != (m.length : Int)) = false := by simp; omega
      cases he : v.all Gf.elOk with
      | false =>
        have hr : res = ([], false) := by rw [hres]; simp [slvR, slvOk, he]
        have RES := hide hr
        have E := hide he
        clear hinv hres h2 hr he hs hl
        go_enter Tryd.func132, Tryd.ntmps132
        go_wp2_with fail
        refine (sInvert_calls _ m _ RM.out).mono ?_
        rw [← HI.out, I2.out]
        rintro e w1 ⟨v1, rfl, hm1, hb1⟩
        have B1 := hide hb1
        clear hm1 hb1
        go_wp2_with fail
        refine (Gf.l1All_calls _ v _ (RV.out.below B1.out)).mono ?_
        rw [E.out]
        rintro e w2 ⟨rfl, rfl⟩
        go_wp2
        go_ret2
        rw [RES.out]
        exact ⟨_, rfl, World.ownsRow_nil _ _ _ _, B1.out⟩
      | true =>
        obtain ⟨s, hsol⟩ : ∃ s, s = solN (m.map nat) (identN m.length) := ⟨_, rfl⟩
        have hi1 : inv = (ciM s.1, s.2) := by rw [hinv, invR, if_pos hs, hsol]
        have hs2 : s.2 = true := by rw [hi1] at h2; exact h2
        have hr : res = (ci (mulC s.1 (nat v)), true) := by
          rw [hres, slvR, if_pos (by simp [slvOk, hs, he, hl]), ← hsol, hs2]
        have f := solN_sh (sh_sq hs) (Gf.sh_ident m.length)
        rw [← hsol] at f
        have h8 := (goodM_rows (sqOk_facts hs).1).2.1
        have RES := hide hr
        have E := hide he
        have I1 := hide hi1
        have F := hide f
        have VL : Hid ((nat v).length = m.length) := by show (nat v).length = m.length; rw [Gf.nat_length, hl]
        clear hinv hres h2 hr he hs hl hsol hi1 hs2 f
        go_enter Tryd.func132, Tryd.ntmps132
        go_wp2_with fail
        refine (sInvert_calls _ m _ RM.out).mono ?_
        rw [← HI.out, I2.out]
        rintro e w1 ⟨v1, rfl, hm1, hb1⟩
        rw [I1.out] at hm1
        have M1 := hide hm1.rd
        have B1 := hide hb1
        clear hm1 hb1
        go_wp2_with fail
        refine (Gf.l1All_calls _ v _ (RV.out.below B1.out)).mono ?_
        rw [E.out]
        rintro e w2 ⟨rfl, rfl⟩
        go_wp2_with fail
        refine (l2Column_calls v1 _ s.1 (nat v) m.length _ M1.out (by rw [Gf.ci_nat E.out]; exact RV.out.below B1.out) (by have := F.out.1; omega) VL.out (by omega) (fun i hi => F.out.2 i hi) (Gf.nat_lt E.out)).mono ?_
        rintro e w3 ⟨v3, rfl, ho3, hb3⟩
        have O3 := hide (Own.mono ho3 B1.out.size)
        have B3 := hide (B1.out.trans (hb3.mono B1.out.size))
        clear ho3 hb3
        go_wp2
        go_ret2
        rw [RES.out]
        exact ⟨_, rfl, O3.out, B3.out⟩
    · have t1 : ((v.length : Int) != (m.length : Int)) = true := by simp; omega
      have hr : res = ([], false) := by rw [hres]; simp [slvR, slvOk, hl]
      have RES := hide hr
      clear hinv hres h2 hr hs hl
      go_enter Tryd.func132, Tryd.ntmps132
      go_wp2_with fail
      refine (sInvert_calls _ m _ RM.out).mono ?_
      rw [← HI.out, I2.out]
      rintro e w1 ⟨v1, rfl, hm1, hb1⟩
      have B1 := hide hb1
      clear hm1 hb1
      go_wp2
      go_ret2
      rw [RES.out]
      exact ⟨_, rfl, World.ownsRow_nil _ _ _ _, B1.out⟩
end Go.Proofs.YtogopakmebiomaaDoor
