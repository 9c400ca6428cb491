/-
  SolveBy: the program's function and its model's, at all arguments. The program's table of rests must hold its seven numbers where the program's own function is called. Powers of unlike points as a matrix: it has an inverse; a word changed at places. Plain mathematics over the functions' answers. No condition. The places where two lists are unlike: the program's function and its model's, call by call. No condition. The product of two polynomials: the program's MulPoly and its model's at every argument that can be read, call by call: both answer the same list, of new memory, and the same word. The program's table of rests must hold its seven numbers where the program's own function is called. The polynomial that makes a code's words, and how many may be wrong: the program's functions and its model's, call by call. The program's table of rests must hold its seven numbers where the program's own functions are called.
-/
import Derived.Test.YtogopakmebiomaaDoorWordsB7
import Derived.Test.YtogopakmebiomaaDoorWordsB4
import Derived.Test.YtogopakmebiomaaDoorWordsB6
import Derived.Test.YtogopakmebiomaaDoorWordsB3
namespace Go.Proofs.YtogopakmebiomaaDoor
open Go.RowKit
open Gf (ci nat ciM Sh AllLt dotTo solN identN colN colL)

def slvOk (m : List (List Int)) (v : List Int) : Bool := sqOk m && (decide (v.length = m.length) && v.all Gf.elOk)
def slvR (m : List (List Int)) (v : List Int) : List Int × Bool := if slvOk m v = true then (ci (mulC (solN (m.map nat) (identN m.length)).1 (nat v)), (solN (m.map nat) (identN m.length)).2) else ([], false)
theorem slvR_len (m : List (List Int)) (v : List Int) : (slvR m v).1.length ≤ 1048576 := by
  unfold slvR
  split
  · rename_i h
    simp only [slvOk, Bool.and_eq_true] at h
    have f := (solN_sh (sh_sq h.1) (Gf.sh_ident m.length)).1
    have h8 := (goodM_rows (sqOk_facts h.1).1).2.1
    simp only [Gf.ci_length, mulC, List.length_map]
    omega
  · simp
theorem colI_ciM (v : List Nat) : colI (ci v) = ciM (colN v) := by
  unfold colI Gf.ci Gf.ciM Gf.colN
  rw [List.map_map, List.map_map]
  rfl
theorem col_mul (X : List (List Nat)) (V : List Nat) : colAt (ciM (X.map (colL V V.length))) 0 = ci (mulC X V) := by
  unfold colAt Gf.ciM Gf.ci mulC
  rw [List.map_map, List.map_map, List.map_map]
  rfl
theorem sh_col {V : List Nat} {n : Nat} (hl : V.length = n) (hV : AllLt V) : Sh (colN V) n 1 := by
  refine ⟨by simp [Gf.colN, hl], fun i hi => ?_, fun i hi j => ?_⟩
  · simp [Gf.colN, List.getD_eq_getElem?_getD, hl, hi]
  · have e : (colN V).getD i [] = [V.getD i 0] := by simp [Gf.colN, List.getD_eq_getElem?_getD, hl, hi]
    rw [e]
    cases j with
    | zero => exact hV i
    | succ j => simp

set_option maxRecDepth 100000 in
set_option maxHeartbeats 1600000 in
theorem solveBy_calls (mv vv : Value) (m : List (List Int)) (v : List Int) (w : World) (hT : Gf.Tab w) (hm : RdM w mv m) (hv : Rd w vv v) :
    Calls Tryd.prog 134 #[mv, vv] w fun e w' => ∃ v', e = .returned (.tuple #[v', .bool (slvR m v).2]) ∧ Own w' w.heap.size v' (slvR m v).1 ∧ Below w.heap.size w w' := by
  have RM := hide hm
  have RV := hide hv
  have T := hide hT
  obtain ⟨ma, mcap, rfl, _⟩ := hm
  obtain ⟨va, vcap, rfl, _⟩ := hv
  clear hT
  cases hs : sqOk m with
  | false =>
    have e : slvR m v = ([], false) := by simp [slvR, slvOk, hs]
    rw [e]
    have S := hide hs
    clear hs e
    go_enter Tryd.func134, Tryd.ntmps134
    go_wp2_with fail
    refine (isSquare_calls _ m _ RM.out).mono ?_
    rw [S.out]
    rintro e w1 ⟨rfl, hb⟩
    have B := hide hb
    clear hb
    go_wp2
    go_ret2
    exact ⟨_, rfl, World.ownsRow_nil _ _ _ _, B.out⟩
  | true =>
    have S := hide hs
    by_cases hl : v.length = m.length
    · have t1 : ((v.length : Int) != (m.length : Int)) = false := by simp; omega
      cases he : v.all Gf.elOk with
      | false =>
        have e : slvR m v = ([], false) := by simp [slvR, slvOk, he]
        rw [e]
        have E := hide he
        clear hs he e hl
        go_enter Tryd.func134, Tryd.ntmps134
        go_wp2_with fail
        refine (isSquare_calls _ m _ RM.out).mono ?_
        rw [S.out]
        rintro e w1 ⟨rfl, hb⟩
        have B := hide hb
        clear hb
        go_wp2_with fail
        refine (Gf.areElements_calls _ v _ (RV.out.below B.out)).mono ?_
        rw [E.out]
        rintro e w2 ⟨rfl, rfl⟩
        go_wp2
        go_ret2
        exact ⟨_, rfl, World.ownsRow_nil _ _ _ _, B.out⟩
      | true =>
        obtain ⟨g1, g2⟩ := sqOk_facts hs
        obtain ⟨f1, f2, _⟩ := goodM_rows g1
        obtain ⟨M, hM⟩ : ∃ M, M = m.map nat := ⟨_, rfl⟩
        have CM : Hid (ciM M = m) := by rw [hM]; exact ciM_nat g1
        have SM : Hid (Sh M m.length m.length) := by rw [hM]; exact sh_sq hs
        have VL : Hid ((nat v).length = m.length) := by show (nat v).length = m.length; rw [Gf.nat_length, hl]
        have VA : Hid (AllLt (nat v)) := Gf.nat_lt he
        have CV : Hid (ciM (colN (nat v)) = colI v) := by
          show ciM (colN (nat v)) = colI v
          rw [← colI_ciM, Gf.ci_nat he]
        obtain ⟨s, hsol⟩ : ∃ s, s = solN M (identN m.length) := ⟨_, rfl⟩
        have e : slvR m v = (ci (mulC s.1 (nat v)), s.2) := by rw [hsol, hM]; simp [slvR, slvOk, hs, he, hl]
        have hmap : solN M (colN (nat v)) = (s.1.map (colL (nat v) m.length), s.2) := by
          rw [Gf.col_ident VA.out VL.out, Gf.solN_map (Gf.lin_col VA.out) SM.out (Gf.sh_ident _), hsol]
        have hcm := col_mul s.1 (nat v)
        rw [VL.out] at hcm
        have hsl := (solN_sh SM.out (sh_col VL.out VA.out)).2
        have hsn := (solN_sh SM.out (sh_col VL.out VA.out)).1
        rw [hmap] at hsl hsn
        rw [e]
        obtain ⟨X, hX⟩ : ∃ X, X = s.1.map (colL (nat v) m.length) := ⟨_, rfl⟩
        obtain ⟨ok, hok⟩ : ∃ ok, ok = s.2 := ⟨_, rfl⟩
        rw [← hX, ← hok] at hmap
        rw [← hX] at hcm hsl hsn
        simp only [] at hsl hsn
        rw [← hcm, ← hok]
        have hbad : ok = false → X = [] := by
          intro h0
          rw [hX]
          have : s = ([], false) ∨ s.2 = true := by
            rw [hsol]
            unfold Gf.solN
            cases Gf.invTo M (identN m.length) M.length with
            | none => exact .inl rfl
            | some q => exact .inr rfl
          rcases this with h | h
          · rw [h]; rfl
          · rw [← hok, h0] at h; cases h
        have E := hide he
        have MP := hide hmap
        have SL := hide hsl
        have SN := hide hsn
        have BAD := hide hbad
        clear hs he e g1 g2 hM hsol hmap hcm hsl hsn hX hok hbad hl
        go_enter Tryd.func134, Tryd.ntmps134
        go_wp2_with fail
        refine (isSquare_calls _ m _ RM.out).mono ?_
        rw [S.out]
        rintro e w1 ⟨rfl, hb⟩
        have B := hide hb
        clear hb
        go_wp2_with fail
        refine (Gf.areElements_calls _ v _ (RV.out.below B.out)).mono ?_
        rw [E.out]
        rintro e w2 ⟨rfl, rfl⟩
        go_wp2_with fail
        refine (asColumn_calls _ v _ (RV.out.below B.out) (by have := VL.out; rw [Gf.nat_length] at this; omega)).mono ?_
        rintro e w2 ⟨v2, rfl, hm2, hb2⟩
        have B2 := hide (B.out.trans (hb2.mono B.out.size))
        have M2 := hide hm2.rd
        clear hm2 hb2
        go_wp2_with fail
        refine (solveRows_calls _ v2 M (colN (nat v)) m.length 1 _ (Gf.Tab.below T.out B2.out) (by rw [CM.out]; exact RM.out.below B2.out) (by rw [CV.out]; exact M2.out) SM.out (sh_col VL.out VA.out) f1 (by omega) (by omega) (by omega)).mono ?_
        rw [MP.out]
        rintro e w3 ⟨v3, rfl, hm3, hb3⟩
        have B3 := hide (B2.out.trans (hb3.mono B2.out.size))
        have M3 := hide hm3.rd
        clear hm3 hb3
        cases ok with
        | false =>
          have hX0 := BAD.out rfl
          have X0 := hide hX0
          clear hX0
          go_wp2
          go_ret2
          rw [X0.out]
          exact ⟨_, rfl, World.ownsRow_nil _ _ _ _, B3.out⟩
        | true =>
          go_wp2_with fail
          refine (columnOf_calls v3 (ciM X) 0 _ M3.out (by rw [Gf.ciM_length]; have := SN.out; omega) (fun i hi => by rw [Gf.ciM_length] at hi; rw [Gf.ciM_get, Gf.ci_length, (SL.out i hi).1]; omega)).mono ?_
          rintro e w4 ⟨v4, rfl, ho4, hb4⟩
          have O4 := hide (Own.mono ho4 B3.out.size)
          have B4 := hide (B3.out.trans (hb4.mono B3.out.size))
          clear ho4 hb4
          go_wp2
          go_ret2
          exact ⟨_, rfl, O4.out, B4.out⟩
    · have t1 : ((v.length : Int) != (m.length : Int)) = true := by simp; omega
      have e : slvR m v = ([], false) := by simp [slvR, slvOk, hl]
      rw [e]
      clear hs hl e
      go_enter Tryd.func134, Tryd.ntmps134
      go_wp2_with fail
      refine (isSquare_calls _ m _ RM.out).mono ?_
      rw [S.out]
      rintro e w1 ⟨rfl, hb⟩
      have B := hide hb
      clear hb
      go_wp2
      go_ret2
      exact ⟨_, rfl, World.ownsRow_nil _ _ _ _, B.out⟩

set_option maxRecDepth 100000 in
set_option maxHeartbeats 1600000 in
theorem sSolveBy_calls (mv vv : Value) (m : List (List Int)) (v : List Int) (w : World) (hm : RdM w mv m) (hv : Rd w vv v) :
    Calls Tryd.prog 132 #[mv, vv] w fun e w' => ∃ v', e = .returned (.tuple #[v', .bool (slvR m v).2]) ∧ Own w' w.heap.size v' (slvR m v).1 ∧ Below w.heap.size w w' := by
  have RM := hide hm
  have RV := hide hv
  obtain ⟨ma, mcap, rfl, _⟩ := hm
  obtain ⟨va, vcap, rfl, _⟩ := hv
  obtain ⟨inv, hinv⟩ : ∃ i, i = invR m := ⟨_, rfl⟩
  have HI := hide hinv
  obtain ⟨res, hres⟩ : ∃ r, r = slvR m v := ⟨_, rfl⟩
  rw [← hres]
  cases h2 : inv.2 with
  | false =>
    have hr : res = ([], false) := by
      rw [hres, slvR]
      split
      · rename_i h
        have hs : sqOk m = true := by simp only [slvOk, Bool.and_eq_true] at h; exact h.1
        have h3 := h2
        rw [hinv, invR, if_pos hs] at h3
        simp only [] at h3
        have : solN (m.map nat) (identN m.length) = ([], false) := by
          unfold Gf.solN at h3 ⊢
          cases hh : Gf.invTo (m.map nat) (identN m.length) (m.map nat).length with
          | none => rfl
          | some q => rw [hh] at h3; simp at h3
        rw [this]; rfl
      · rfl
    have RES := hide hr
    have I2 := hide h2
    clear hinv hres h2 hr
    go_enter Tryd.func132, Tryd.ntmps132
    go_wp2_with fail
    refine (sInvert_calls _ m _ RM.out).mono ?_
    rw [← HI.out, I2.out]
    rintro e w1 ⟨v1, rfl, hm1, hb1⟩
    have B1 := hide hb1
    clear hm1 hb1
    go_wp2
    go_ret2
    rw [RES.out]
    exact ⟨_, rfl, World.ownsRow_nil _ _ _ _, B1.out⟩
  | true =>
    have hs : sqOk m = true := by
      cases hs : sqOk m with
      | true => rfl
      | false => rw [hinv] at h2; simp [invR, hs] at h2
    have I2 := hide h2
    by_cases hl : v.length = m.length
    · have t1 : ((v.length : Int) != (m.length : Int)) = false := by simp; omega
      cases he : v.all Gf.elOk with
      | false =>
        have hr : res = ([], false) := by rw [hres]; simp [slvR, slvOk, he]
        have RES := hide hr
        have E := hide he
        clear hinv hres h2 hr he hs hl
        go_enter Tryd.func132, Tryd.ntmps132
        go_wp2_with fail
        refine (sInvert_calls _ m _ RM.out).mono ?_
        rw [← HI.out, I2.out]
        rintro e w1 ⟨v1, rfl, hm1, hb1⟩
        have B1 := hide hb1
        clear hm1 hb1
        go_wp2_with fail
        refine (Gf.l1All_calls _ v _ (RV.out.below B1.out)).mono ?_
        rw [E.out]
        rintro e w2 ⟨rfl, rfl⟩
        go_wp2
        go_ret2
        rw [RES.out]
        exact ⟨_, rfl, World.ownsRow_nil _ _ _ _, B1.out⟩
      | true =>
        obtain ⟨s, hsol⟩ : ∃ s, s = solN (m.map nat) (identN m.length) := ⟨_, rfl⟩
        have hi1 : inv = (ciM s.1, s.2) := by rw [hinv, invR, if_pos hs, hsol]
        have hs2 : s.2 = true := by rw [hi1] at h2; exact h2
        have hr : res = (ci (mulC s.1 (nat v)), true) := by
          rw [hres, slvR, if_pos (by simp [slvOk, hs, he, hl]), ← hsol, hs2]
        have f := solN_sh (sh_sq hs) (Gf.sh_ident m.length)
        rw [← hsol] at f
        have h8 := (goodM_rows (sqOk_facts hs).1).2.1
        have RES := hide hr
        have E := hide he
        have I1 := hide hi1
        have F := hide f
        have VL : Hid ((nat v).length = m.length) := by show (nat v).length = m.length; rw [Gf.nat_length, hl]
        clear hinv hres h2 hr he hs hl hsol hi1 hs2 f
        go_enter Tryd.func132, Tryd.ntmps132
        go_wp2_with fail
        refine (sInvert_calls _ m _ RM.out).mono ?_
        rw [← HI.out, I2.out]
        rintro e w1 ⟨v1, rfl, hm1, hb1⟩
        rw [I1.out] at hm1
        have M1 := hide hm1.rd
        have B1 := hide hb1
        clear hm1 hb1
        go_wp2_with fail
        refine (Gf.l1All_calls _ v _ (RV.out.below B1.out)).mono ?_
        rw [E.out]
        rintro e w2 ⟨rfl, rfl⟩
        go_wp2_with fail
        refine (l2Column_calls v1 _ s.1 (nat v) m.length _ M1.out (by rw [Gf.ci_nat E.out]; exact RV.out.below B1.out) (by have := F.out.1; omega) VL.out (by omega) (fun i hi => F.out.2 i hi) (Gf.nat_lt E.out)).mono ?_
        rintro e w3 ⟨v3, rfl, ho3, hb3⟩
        have O3 := hide (Own.mono ho3 B1.out.size)
        have B3 := hide (B1.out.trans (hb3.mono B1.out.size))
        clear ho3 hb3
        go_wp2
        go_ret2
        rw [RES.out]
        exact ⟨_, rfl, O3.out, B3.out⟩
    · have t1 : ((v.length : Int) != (m.length : Int)) = true := by simp; omega
      have hr : res = ([], false) := by rw [hres]; simp [slvR, slvOk, hl]
      have RES := hide hr
      clear hinv hres h2 hr hs hl
      go_enter Tryd.func132, Tryd.ntmps132
      go_wp2_with fail
      refine (sInvert_calls _ m _ RM.out).mono ?_
      rw [← HI.out, I2.out]
      rintro e w1 ⟨v1, rfl, hm1, hb1⟩
      have B1 := hide hb1
      clear hm1 hb1
      go_wp2
      go_ret2
      rw [RES.out]
      exact ⟨_, rfl, World.ownsRow_nil _ _ _ _, B1.out⟩
end Go.Proofs.YtogopakmebiomaaDoor

namespace Go.Proofs.YtogopakmebiomaaDoor
open Go.RowKit
open Gf (ci nat ciM Sh AllLt dotTo solN identN colN colL p2 vs px plcN ev ip)

/-- Places of a word: below 24, rising. -/
def PlOk (ps : List Int) : Prop := ∀ i, i < ps.length → 0 ≤ ps.getD i 0 ∧ ps.getD i 0 < 24 ∧ ∀ j, j < i → ps.getD j 0 < ps.getD i 0
theorem plcN_ok (c : List Int) : ∀ L, L ≤ 24 → PlOk (plcN c L) ∧ ∀ i, i < (plcN c L).length → (plcN c L).getD i 0 < (L : Int)
  | 0, _ => ⟨fun i hi => by simp [Gf.plcN] at hi, fun i hi => by simp [Gf.plcN] at hi⟩
  | L + 1, h => by
    obtain ⟨h1, h2⟩ := plcN_ok c L (by omega)
    by_cases hz : ev (ip L) c = 0
    · rw [Gf.plcN_yes hz]
      have hl : (plcN c L ++ [(L : Int)]).length = (plcN c L).length + 1 := by simp
      have ha : ∀ i, i < (plcN c L).length → (plcN c L ++ [(L : Int)]).getD i 0 = (plcN c L).getD i 0 := fun i hi => by
        rw [List.getD_eq_getElem?_getD, List.getElem?_append_left hi, List.getD_eq_getElem?_getD]
      have hb : (plcN c L ++ [(L : Int)]).getD (plcN c L).length 0 = (L : Int) := by
        rw [List.getD_eq_getElem?_getD, List.getElem?_append_right (Nat.le_refl _), Nat.sub_self]; rfl
      refine ⟨fun i hi => ?_, fun i hi => ?_⟩
      · rw [hl] at hi
        by_cases he : i = (plcN c L).length
        · subst he
          rw [hb]
          refine ⟨by omega, by omega, fun j hj => ?_⟩
          rw [ha j hj]
          exact h2 j hj
        · rw [ha i (by omega)]
          obtain ⟨a, b, d⟩ := h1 i (by omega)
          refine ⟨a, b, fun j hj => ?_⟩
          rw [ha j (by omega)]
          exact d j hj
      · rw [hl] at hi
        by_cases he : i = (plcN c L).length
        · subst he
          rw [hb]
          omega
        · rw [ha i (by omega)]
          have := h2 i (by omega)
          omega
    · rw [Gf.plcN_no hz]
      exact ⟨h1, fun i hi => by have := h2 i hi; omega⟩
namespace Gf
theorem px_px {x : Nat} (hx : x < 256) (p k : Nat) : px (px x p) k = px x (p * k) := by
  induction k with
  | zero => rfl
  | succ k ih => rw [px, ih, Nat.mul_succ, px_add hx]
theorem pow_px {p k : Nat} (hp : p < 24) (hk : k < 3) : pow 2 (p * k) = px (p2 p) k := by
  have h : p * k < 64 := by
    have : p * k ≤ 23 * 2 := Nat.mul_le_mul (by omega) (by omega)
    omega
  have e := p2_px h
  rw [p2_px (p := p) (by omega), px_px (by omega), ← e]
  rfl
end Gf
def vanRow (ps : List Int) (k : Nat) : List Int := ps.map fun p => ((Gf.pow 2 (p.toNat * k) : Nat) : Int)
def vanM (ps : List Int) : List (List Int) := (List.range ps.length).map (vanRow ps)
theorem vanRow_length (ps : List Int) (k : Nat) : (vanRow ps k).length = ps.length := by simp [vanRow]
theorem vanRow_get (ps : List Int) (k j : Nat) (h : j < ps.length) : (vanRow ps k).getD j 0 = ((Gf.pow 2 ((ps.getD j 0).toNat * k) : Nat) : Int) := by
  simp [vanRow, List.getD_eq_getElem?_getD, h]
theorem vanM_length (ps : List Int) : (vanM ps).length = ps.length := by simp [vanM]
theorem vanM_get (ps : List Int) (k : Nat) (h : k < ps.length) : (vanM ps).getD k [] = vanRow ps k := by simp [vanM, h]
theorem vanRow_all (ps : List Int) (k : Nat) : (vanRow ps k).all Gf.elOk = true := by
  rw [List.all_eq_true]
  intro x hx
  obtain ⟨p, _, rfl⟩ := List.mem_map.1 hx
  have := Gf.pow_lt 2 (p.toNat * k)
  exact Gf.elOk_iff.2 (by omega)
theorem vanM_sq {ps : List Int} (h1 : 1 ≤ ps.length) (h3 : ps.length ≤ 3) : sqOk (vanM ps) = true := by
  have hl := vanM_length ps
  have h0 := vanM_get ps 0 (by omega)
  have hr : (vanRow ps 0).length = ps.length := vanRow_length ps 0
  have hg : goodM (vanM ps) = true := by
    simp only [goodM, Bool.and_eq_true, decide_eq_true_eq]
    rw [h0, hr, hl]
    refine ⟨by omega, by omega, all_yes (d := []) (fun i hi => ?_), all_yes (d := []) (fun i hi => ?_)⟩
    · rw [vanM_get _ _ (by rw [hl] at hi; exact hi), vanRow_length]; simp
    · rw [vanM_get _ _ (by rw [hl] at hi; exact hi)]; exact vanRow_all _ _
  unfold sqOk
  rw [hg, h0, hr, hl]
  simp
theorem van_kern {ps : List Int} (hp : PlOk ps) (h3 : ps.length ≤ 3) (z : List Nat) (hzl : z.length = ps.length) (hz : AllLt z)
    (h : ∀ i, i < ps.length → dotTo (nat (vanRow ps i)) z ps.length = 0) : ∀ j, j < ps.length → z.getD j 0 = 0 := by
  have hX : ∀ i, i < ps.length → dotTo (nat (vanRow ps i)) z ps.length = vs (fun j => z.getD j 0) (fun j => p2 (ps.getD j 0).toNat) i ps.length := by
    intro i hi
    have key : ∀ m, m ≤ ps.length → dotTo (nat (vanRow ps i)) z m = vs (fun j => z.getD j 0) (fun j => p2 (ps.getD j 0).toNat) i m := by
      intro m
      induction m with
      | zero => intro _; rfl
      | succ m ih =>
        intro hm
        rw [Gf.dotTo, Gf.vs, ih (by omega)]
        have e : (nat (vanRow ps i)).getD m 0 = px (p2 (ps.getD m 0).toNat) i := by
          have h1 : (nat (vanRow ps i)).getD m 0 = ((vanRow ps i).getD m 0).toNat := by
            unfold Gf.nat
            simp [List.getD_eq_getElem?_getD, show m < (vanRow ps i).length by rw [vanRow_length]; omega]
          rw [h1, vanRow_get _ _ _ (by omega), Int.toNat_natCast]
          obtain ⟨a, b, _⟩ := hp m (by omega)
          exact Gf.pow_px (by omega) (by omega)
        rw [e, Gf.mul_comm _ _ (Gf.px_lt _ _) (hz m)]
    exact key _ (Nat.le_refl _)
  refine Gf.vand_zero ps.length (fun j => z.getD j 0) (fun j => p2 (ps.getD j 0).toNat) hz (fun j => Gf.p2_lt _) ?_ (fun k hk => by rw [← hX k hk]; exact h k hk)
  intro i j hi hj hne e
  obtain ⟨a1, b1, c1⟩ := hp i hi
  obtain ⟨a2, b2, c2⟩ := hp j hj
  have := Gf.p2_inj (by omega) (by omega) e
  rcases Nat.lt_or_gt_of_ne hne with h | h
  · have := c2 i h; omega
  · have := c1 j h; omega
theorem van_ok {ps v : List Int} (hp : PlOk ps) (h1 : 1 ≤ ps.length) (h3 : ps.length ≤ 3) (hv : v.length = ps.length) (hve : v.all Gf.elOk = true) : (slvR (vanM ps) v).2 = true := by
  have hsq := vanM_sq h1 h3
  have hok : slvOk (vanM ps) v = true := by
    simp only [slvOk, Bool.and_eq_true, decide_eq_true_eq]
    exact ⟨hsq, by rw [vanM_length]; exact hv, hve⟩
  unfold slvR
  rw [if_pos hok]
  have ha := sh_sq hsq
  show (solN ((vanM ps).map nat) (identN (vanM ps).length)).2 = true
  refine Gf.solN_ok (n := (vanM ps).length) ha (Gf.sh_ident _) ?_
  intro z hzl hz h
  rw [vanM_length] at hzl h ⊢
  refine van_kern hp h3 z hzl hz (fun i hi => ?_)
  have := h i hi
  rwa [show ((vanM ps).map nat).getD i [] = nat (vanRow ps i) from by simp [List.getD_eq_getElem?_getD, vanM, hi]] at this

/-- A word changed at the first i of the places. -/
def fixN (X S : List Nat) (ps : List Int) : Nat → List Nat
  | 0 => X
  | i + 1 => Gf.xorAt (fixN X S ps i) (ps.getD i 0).toNat (S.getD i 0)
theorem fixN_length (X S : List Nat) (ps : List Int) (i : Nat) : (fixN X S ps i).length = X.length := by
  induction i with
  | zero => rfl
  | succ i ih => rw [fixN, Gf.xorAt, List.length_set, ih]
theorem fixN_lt {X S : List Nat} {ps : List Int} (hX : AllLt X) (hS : AllLt S) (i : Nat) : AllLt (fixN X S ps i) := by
  induction i with
  | zero => exact hX
  | succ i ih => rw [fixN]; exact ih.set _ _ (Gf.xor_lt (ih _) (hS i))
def fixW (xs ps ss : List Int) : List Int := ci (fixN (nat xs) (nat (slvR (vanM ps) (ss.take ps.length)).1) ps ps.length)
end Go.Proofs.YtogopakmebiomaaDoor

namespace Go.Proofs.YtogopakmebiomaaDoor
open Go.RowKit

theorem rd_single1 {w : World} {z : Int} : Rd (w.alloc (.cells #[.int .i64 z] 3)) (.slice (some ⟨w.heap.size, 0, none⟩) 1 1) [z] := by
  refine ⟨_, 1, rfl, Nat.le_refl _, ⟨by unfold maxLen; omega, fun h => by cases h⟩, .inr ⟨_, 0, rfl, by simp, fun i hi => ?_⟩⟩
  simp at hi
  subst hi
  exact World.cell?_alloc_at _ _ _ _ (by simp)
/-- The places below k where two lists are unlike. -/
def unpN (xs ys : List Int) : Nat → List Int
  | 0 => []
  | k + 1 => if xs.getD k 0 = ys.getD k 0 then unpN xs ys k else unpN xs ys k ++ [(k : Int)]
theorem unpN_length (xs ys : List Int) (k : Nat) : (unpN xs ys k).length ≤ k := by
  induction k with
  | zero => exact Nat.le_refl _
  | succ k ih =>
    rw [unpN]
    split
    · omega
    · rw [List.length_append]; show _ + 1 ≤ _; omega
theorem unpN_same {xs ys : List Int} {k : Nat} {x y : Int} (hx : xs.getD k 0 = x) (hy : ys.getD k 0 = y) (h : x = y) : unpN xs ys (k + 1) = unpN xs ys k := by rw [unpN, if_pos (by rw [hx, hy, h])]
theorem unpN_other {xs ys : List Int} {k : Nat} {x y : Int} (hx : xs.getD k 0 = x) (hy : ys.getD k 0 = y) (h : ¬ x = y) : unpN xs ys (k + 1) = unpN xs ys k ++ [(k : Int)] := by rw [unpN, if_neg (by rw [hx, hy]; exact h)]
def wrpR (xs ys : List Int) : List Int × Bool := if xs.length = ys.length ∧ xs.length ≤ 24 then (unpN xs ys xs.length, true) else ([], false)
theorem wrpR_len (xs ys : List Int) : (wrpR xs ys).1.length ≤ 1048576 := by
  unfold wrpR
  split
  next h => have := unpN_length xs ys xs.length; show (unpN xs ys xs.length).length ≤ _; omega
  next => show 0 ≤ _; omega

set_option maxRecDepth 100000 in
set_option maxHeartbeats 1600000 in
theorem wrongPlaces_calls (av bv : Value) (xs ys : List Int) (w : World) (ha : Rd w av xs) (hb : Rd w bv ys) :
    Calls Tryd.prog 32 #[av, bv] w fun e w' => ∃ v', e = .returned (.tuple #[v', .bool (wrpR xs ys).2]) ∧ Own w' w.heap.size v' (wrpR xs ys).1 ∧ Below w.heap.size w w' := by
  have RA := hide ha
  have RB := hide hb
  obtain ⟨aa, ac, rfl, _, _, _⟩ := ha
  obtain ⟨ba, bc, rfl, _, _, _⟩ := hb
  by_cases hl : xs.length = ys.length
  case neg =>
    have e : wrpR xs ys = ([], false) := if_neg (fun h => hl h.1)
    have t : ((xs.length : Int) != (ys.length : Int)) = true := by simp; omega
    have hl' : ¬ (xs.length : Int) = (ys.length : Int) := by omega
    rw [e]
    clear e hl
    go_enter Tryd.func32, Tryd.ntmps32
    go_wp2
    go_ret2
    exact ⟨_, rfl, World.ownsRow_nil _ _ _ _, Below.refl _ _⟩
  by_cases hm : xs.length ≤ 24
  case neg =>
    have e : wrpR xs ys = ([], false) := if_neg (fun h => hm h.2)
    have t : ((xs.length : Int) != (ys.length : Int)) = false := by simp; omega
    have hm' : (24 : Int) < (xs.length : Int) := by omega
    rw [e]
    clear e
    have HL := hide hl
    clear hl
    go_enter Tryd.func32, Tryd.ntmps32
    go_wp2
    go_ret2
    exact ⟨_, rfl, World.ownsRow_nil _ _ _ _, Below.refl _ _⟩
  have e : wrpR xs ys = (unpN xs ys xs.length, true) := if_pos ⟨hl, hm⟩
  have t : ((xs.length : Int) != (ys.length : Int)) = false := by simp; omega
  have hm' : ¬ (24 : Int) < (xs.length : Int) := by omega
  rw [e]
  have HL := hide hl
  clear e hl
  go_enter Tryd.func32, Tryd.ntmps32
  go_wp2
  go_loopw [6, 21] (fun vo vk wr => ∃ k : Nat, k ≤ xs.length ∧ vk = .int .i64 k ∧ Own wr w.heap.size vo (unpN xs ys k) ∧ Below w.heap.size w wr) (fun _ vk _ => xs.length - (intOf vk).toNat)
  case atStart =>
    refine ⟨0, Nat.zero_le _, rfl, ?_, (Below.refl _ _).alloc (Nat.le_refl _) _⟩
    exact World.ownsRow_lit w #[] 0 (Nat.le_refl _) (by decide) (by rfl)
  case round =>
    obtain ⟨k, hk, rfl, ho, hb⟩ := hrel
    have O := hide ho
    have B := hide hb
    clear ho hb
    by_cases hlt : k < xs.length
    · have hlt' : (k : Int) < (xs.length : Int) := by omega
      have hlty' : (k : Int) < (ys.length : Int) := by have := HL.out; omega
      have hlty : k < ys.length := by have := HL.out; omega
      obtain ⟨b1, o1, u1, rfl, hc1, hu1⟩ := (RA.out.below B.out).row k hlt
      obtain ⟨b2, o2, u2, rfl, hc2, hu2⟩ := (RB.out.below B.out).row k hlty
      obtain ⟨x, hx⟩ : ∃ x, x = xs.getD k 0 := ⟨_, rfl⟩
      obtain ⟨y, hy⟩ : ∃ y, y = ys.getD k 0 := ⟨_, rfl⟩
      rw [← hx] at hu1
      rw [← hy] at hu2
      subst hu1 hu2
      have X := hide hx
      have Y := hide hy
      clear hx hy
      by_cases hxy : x = y
      · have tt : (x != y) = false := by simp [hxy]
        have e := unpN_same X.out.symm Y.out.symm hxy
        have O1 := hide O.out
        rw [← e] at O1
        clear e
        go_wp2
        go_quiet (fail)
        go_wp2
        go_roundw
        case rel => exact ⟨k + 1, by omega, by go_num, O1.out.below (below_drewN' _), below_drewN B.out _⟩
        case measure => simp [intOf]; omega
      · have tt : (x != y) = true := by simp [hxy]
        have e := unpN_other X.out.symm Y.out.symm hxy
        have hun := unpN_length xs ys k
        obtain ⟨l, hl⟩ : ∃ l, l = unpN xs ys k := ⟨_, rfl⟩
        have O2 := hide O.out
        rw [← hl] at e O2 hun
        have E := hide e
        clear e hl
        go_wp2
        go_quiet (fail)
        go_wp2_with (at_builtin; refine wpList_append_rd rfl _ _ rfl w.heap.size _ l.length l [((k : Nat) : Int)] rfl ((O2.out.below (below_drewN' _)).alloc _) _ rfl rd_single1 (by simp; omega) (by have := B.out.size; simp; omega) ?_)
        intro v' w3 ho3 hg3
        have hb3 : Below w.heap.size w w3 := ((below_drewN B.out _).alloc (by have := B.out.size; simp; omega) _).grown hg3 (by have := B.out.size; simp; omega) (fun i hi => (O.out.lt i hi).1)
        rw [← E.out] at ho3
        have O3 := hide ho3
        have B3 := hide hb3
        clear ho3 hg3 hb3
        go_wp2
        go_roundw
        case rel => exact ⟨k + 1, by omega, by go_num, O3.out, B3.out⟩
        case measure => simp [intOf]; omega
    · obtain rfl : k = xs.length := by omega
      go_wp2
      go_ret2
      exact ⟨_, rfl, O.out, B.out⟩

set_option maxRecDepth 100000 in
set_option maxHeartbeats 1600000 in
theorem l4Unlike_calls (av bv : Value) (xs ys : List Int) (w : World) (ha : Rd w av xs) (hb : Rd w bv ys) (hl : xs.length = ys.length) (hm : xs.length ≤ 24) :
    Calls Tryd.prog 89 #[av, bv] w fun e w' => ∃ v', e = .returned v' ∧ Own w' w.heap.size v' (unpN xs ys xs.length) ∧ Below w.heap.size w w' := by
  have RA := hide ha
  have RB := hide hb
  obtain ⟨aa, ac, rfl, _, _, _⟩ := ha
  obtain ⟨ba, bc, rfl, _, _, _⟩ := hb
  have HL := hide hl
  clear hl
  go_enter Tryd.func89, Tryd.ntmps89
  go_wp2
  go_loopw [5, 9] (fun vo vk wr => ∃ k : Nat, k ≤ xs.length ∧ vk = .int .i64 k ∧ Own wr w.heap.size vo (unpN xs ys k) ∧ Below w.heap.size w wr) (fun _ vk _ => xs.length - (intOf vk).toNat)
  case atStart => exact ⟨0, Nat.zero_le _, rfl, World.ownsRow_nil _ _ _ _, Below.refl _ _⟩
  case round =>
    obtain ⟨k, hk, rfl, ho, hb⟩ := hrel
    have O := hide ho
    have B := hide hb
    clear ho hb
    by_cases hlt : k < xs.length
    · have hlt' : (k : Int) < (xs.length : Int) := by omega
      have hlty' : (k : Int) < (ys.length : Int) := by have := HL.out; omega
      have hlty : k < ys.length := by have := HL.out; omega
      obtain ⟨b1, o1, u1, rfl, hc1, hu1⟩ := (RA.out.below B.out).row k hlt
      obtain ⟨b2, o2, u2, rfl, hc2, hu2⟩ := (RB.out.below B.out).row k hlty
      obtain ⟨x, hx⟩ : ∃ x, x = xs.getD k 0 := ⟨_, rfl⟩
      obtain ⟨y, hy⟩ : ∃ y, y = ys.getD k 0 := ⟨_, rfl⟩
      rw [← hx] at hu1
      rw [← hy] at hu2
      subst hu1 hu2
      have X := hide hx
      have Y := hide hy
      clear hx hy
      by_cases hxy : x = y
      · have tt : (x != y) = false := by simp [hxy]
        have e := unpN_same X.out.symm Y.out.symm hxy
        have O1 := hide O.out
        rw [← e] at O1
        clear e
        go_wp2
        go_quiet (fail)
        go_wp2
        go_roundw
        case rel => exact ⟨k + 1, by omega, by go_num, O1.out.below (below_drewN' _), below_drewN B.out _⟩
        case measure => simp [intOf]; omega
      · have tt : (x != y) = true := by simp [hxy]
        have e := unpN_other X.out.symm Y.out.symm hxy
        have hun := unpN_length xs ys k
        obtain ⟨l, hl⟩ : ∃ l, l = unpN xs ys k := ⟨_, rfl⟩
        have O2 := hide O.out
        rw [← hl] at e O2 hun
        have E := hide e
        clear e hl
        go_wp2
        go_quiet (fail)
        go_wp2_with (at_builtin; refine wpList_append_rd rfl _ _ rfl w.heap.size _ l.length l [((k : Nat) : Int)] rfl ((O2.out.below (below_drewN' _)).alloc _) _ rfl rd_single1 (by simp; omega) (by have := B.out.size; simp; omega) ?_)
        intro v' w3 ho3 hg3
        have hb3 : Below w.heap.size w w3 := ((below_drewN B.out _).alloc (by have := B.out.size; simp; omega) _).grown hg3 (by have := B.out.size; simp; omega) (fun i hi => (O.out.lt i hi).1)
        rw [← E.out] at ho3
        have O3 := hide ho3
        have B3 := hide hb3
        clear ho3 hg3 hb3
        go_wp2
        go_roundw
        case rel => exact ⟨k + 1, by omega, by go_num, O3.out, B3.out⟩
        case measure => simp [intOf]; omega
    · obtain rfl : k = xs.length := by omega
      go_wp2
      go_ret
      exact ⟨_, rfl, O.out, B.out⟩

set_option maxRecDepth 100000 in
set_option maxHeartbeats 1600000 in
theorem sWrongPlaces_calls (av bv : Value) (xs ys : List Int) (w : World) (ha : Rd w av xs) (hb : Rd w bv ys) :
    Calls Tryd.prog 38 #[av, bv] w fun e w' => ∃ v', e = .returned (.tuple #[v', .bool (wrpR xs ys).2]) ∧ Own w' w.heap.size v' (wrpR xs ys).1 ∧ Below w.heap.size w w' := by
  have RA := hide ha
  have RB := hide hb
  obtain ⟨aa, ac, rfl, _, _, _⟩ := ha
  obtain ⟨ba, bc, rfl, _, _, _⟩ := hb
  by_cases hl : xs.length = ys.length
  case neg =>
    have e : wrpR xs ys = ([], false) := if_neg (fun h => hl h.1)
    have t : ((xs.length : Int) != (ys.length : Int)) = true := by simp; omega
    have hl' : ¬ (xs.length : Int) = (ys.length : Int) := by omega
    rw [e]
    clear e hl
    go_enter Tryd.func38, Tryd.ntmps38
    go_wp2
    go_ret2
    exact ⟨_, rfl, World.ownsRow_nil _ _ _ _, Below.refl _ _⟩
  by_cases hm : xs.length ≤ 24
  case neg =>
    have e : wrpR xs ys = ([], false) := if_neg (fun h => hm h.2)
    have t : ((xs.length : Int) != (ys.length : Int)) = false := by simp; omega
    have hm' : (24 : Int) < (xs.length : Int) := by omega
    rw [e]
    clear e
    have HL := hide hl
    clear hl
    go_enter Tryd.func38, Tryd.ntmps38
    go_wp2
    go_ret2
    exact ⟨_, rfl, World.ownsRow_nil _ _ _ _, Below.refl _ _⟩
  have e : wrpR xs ys = (unpN xs ys xs.length, true) := if_pos ⟨hl, hm⟩
  have t : ((xs.length : Int) != (ys.length : Int)) = false := by simp; omega
  have hm' : ¬ (24 : Int) < (xs.length : Int) := by omega
  rw [e]
  have HL := hide hl
  clear e hl
  go_enter Tryd.func38, Tryd.ntmps38
  go_wp2_with fail
  refine (l4Unlike_calls _ _ xs ys _ RA.out RB.out HL.out hm).mono ?_
  rintro e w1 ⟨v1, rfl, ho1, hb1⟩
  have O1 := hide ho1
  have B1 := hide hb1
  clear ho1 hb1
  go_wp2
  go_ret2
  exact ⟨_, rfl, O1.out, B1.out⟩
end Go.Proofs.YtogopakmebiomaaDoor

namespace Go.Proofs.YtogopakmebiomaaDoor
open Go.RowKit
namespace Gf

theorem own_nil (w : World) (base : Nat) : Own w base (.slice none 0 0) [] := World.ownsRow_nil _ _ _ _
theorem mulR_badx {xs ys : List Int} (h : goodP xs = false) : mulR xs ys = ([], false) := by simp [mulR, h]
theorem mulR_bady {xs ys : List Int} (h : goodP ys = false) : mulR xs ys = ([], false) := by simp [mulR, h]
theorem mulR_empty {xs ys : List Int} (hx : goodP xs = true) (hy : goodP ys = true) (h : xs.length = 0 ∨ ys.length = 0) : mulR xs ys = ([], true) := by
  unfold mulR
  rw [if_pos ⟨hx, hy⟩, if_pos h]
theorem mulR_long {xs ys : List Int} (hx : goodP xs = true) (hy : goodP ys = true) (h : ¬ (xs.length = 0 ∨ ys.length = 0)) (hl : 40 < xs.length + ys.length - 1) : mulR xs ys = ([], false) := by
  unfold mulR
  rw [if_pos ⟨hx, hy⟩, if_neg h, if_pos hl]
theorem mulR_fit {xs ys : List Int} (hx : goodP xs = true) (hy : goodP ys = true) (h : ¬ (xs.length = 0 ∨ ys.length = 0)) (hl : ¬ 40 < xs.length + ys.length - 1) :
    mulR xs ys = (ci (mp (nat xs) (nat ys) (List.replicate (xs.length + ys.length - 1) 0) xs.length), true) := by
  unfold mulR
  rw [if_pos ⟨hx, hy⟩, if_neg h, if_neg hl]

set_option maxRecDepth 100000 in
set_option maxHeartbeats 1600000 in
theorem mulPoly_calls (pv qv : Value) (xs ys : List Int) (w : World) (hT : Tab w) (hp : Rd w pv xs) (hq : Rd w qv ys) :
    Calls Tryd.prog 66 #[pv, qv] w fun e w' => ∃ v', e = .returned (.tuple #[v', .bool (mulR xs ys).2]) ∧ Own w' w.heap.size v' (mulR xs ys).1 ∧ Below w.heap.size w w' := by
  have T := hide hT
  have P := hide hp
  have Q := hide hq
  clear hT hp hq
  cases hgx : goodP xs with
  | false =>
    have G := hide hgx
    rw [mulR_badx hgx]
    clear hgx
    go_enter Tryd.func66, Tryd.ntmps66
    go_wp2_with (go_at_call 124; refine (isPoly_calls pv xs _ P.out).mono ?_; rw [G.out]; rintro e w' ⟨rfl, rfl⟩)
    go_ret2
    exact ⟨_, rfl, own_nil _ _, Below.refl _ _⟩
  | true =>
    have G := hide hgx
    cases hgy : goodP ys with
    | false =>
      have G2 := hide hgy
      rw [mulR_bady hgy]
      clear hgx hgy
      go_enter Tryd.func66, Tryd.ntmps66
      go_wp2_with fail
      refine (isPoly_calls pv xs _ P.out).mono ?_
      rw [G.out]
      rintro e w' ⟨rfl, rfl⟩
      go_wp2_with fail
      refine (isPoly_calls qv ys _ Q.out).mono ?_
      rw [G2.out]
      rintro e w' ⟨rfl, rfl⟩
      go_wp2
      go_ret2
      exact ⟨_, rfl, own_nil _ _, Below.refl _ _⟩
    | true =>
      have G2 := hide hgy
      have lx := goodP_len hgx
      have ly := goodP_len hgy
      obtain ⟨pa, pcap, rfl, _, _, _⟩ := P.out
      obtain ⟨qa, qcap, rfl, _, _, _⟩ := Q.out
      by_cases he : xs.length = 0 ∨ ys.length = 0
      · rw [mulR_empty hgx hgy he]
        clear hgx hgy
        by_cases h0 : xs.length = 0
        · have t1 : ((xs.length : Int) == 0) = true := by simp [h0]
          clear he h0
          go_enter Tryd.func66, Tryd.ntmps66
          go_wp2_with fail
          refine (isPoly_calls _ xs _ P.out).mono ?_
          rw [G.out]
          rintro e w' ⟨rfl, rfl⟩
          go_wp2_with fail
          refine (isPoly_calls _ ys _ Q.out).mono ?_
          rw [G2.out]
          rintro e w' ⟨rfl, rfl⟩
          go_wp2
          go_ret2
          exact ⟨_, rfl, own_nil _ _, Below.refl _ _⟩
        · have t1 : ((xs.length : Int) == 0) = false := by simp; intro e; simp [e] at h0
          have t2 : ((ys.length : Int) == 0) = true := by simp; rcases he with h | h
                                                          · exact absurd h h0
                                                          · exact List.eq_nil_of_length_eq_zero h
          clear he h0
          go_enter Tryd.func66, Tryd.ntmps66
          go_wp2_with fail
          refine (isPoly_calls _ xs _ P.out).mono ?_
          rw [G.out]
          rintro e w' ⟨rfl, rfl⟩
          go_wp2_with fail
          refine (isPoly_calls _ ys _ Q.out).mono ?_
          rw [G2.out]
          rintro e w' ⟨rfl, rfl⟩
          go_wp2
          go_ret2
          exact ⟨_, rfl, own_nil _ _, Below.refl _ _⟩
      · have t1 : ((xs.length : Int) == 0) = false := by simp; intro e; simp [e] at he
        have t2 : ((ys.length : Int) == 0) = false := by simp; intro e; simp [e] at he
        have p1 : 0 < xs.length := by omega
        have p2 : 0 < ys.length := by omega
        by_cases hl : 40 < xs.length + ys.length - 1
        · rw [mulR_long hgx hgy he hl]
          have t3 : (40 : Int) < (xs.length : Int) + (ys.length : Int) - 1 := by omega
          clear hgx hgy he hl
          go_enter Tryd.func66, Tryd.ntmps66
          go_wp2_with fail
          refine (isPoly_calls _ xs _ P.out).mono ?_
          rw [G.out]
          rintro e w' ⟨rfl, rfl⟩
          go_wp2_with fail
          refine (isPoly_calls _ ys _ Q.out).mono ?_
          rw [G2.out]
          rintro e w' ⟨rfl, rfl⟩
          go_wp2
          go_ret2
          exact ⟨_, rfl, own_nil _ _, Below.refl _ _⟩
        · rw [mulR_fit hgx hgy he hl]
          have t3 : ¬ (40 : Int) < (xs.length : Int) + (ys.length : Int) - 1 := by omega
          have GX := hide (goodP_mem hgx)
          have GY := hide (goodP_mem hgy)
          obtain ⟨n, hn⟩ : ∃ n, n = xs.length + ys.length - 1 := ⟨_, rfl⟩
          rw [← hn]
          have en : (xs.length : Int) + (ys.length : Int) - 1 = (n : Int) := by omega
          have hn40 : n ≤ 40 := by omega
          have HN := hide hn
          clear hgx hgy he hl hn
          go_enter Tryd.func66, Tryd.ntmps66
          go_wp2_with fail
          refine (isPoly_calls _ xs _ P.out).mono ?_
          rw [G.out]
          rintro e w' ⟨rfl, rfl⟩
          go_wp2_with fail
          refine (isPoly_calls _ ys _ Q.out).mono ?_
          rw [G2.out]
          rintro e w' ⟨rfl, rfl⟩
          go_wp2_with (at_make; refine wpList_make_ints rfl _ _ rfl w.heap.size _ _ n rfl rfl (by omega) (by omega) (by omega) (Nat.le_refl _) ?_; intro w0 hown0 hgrow0)
          have B0 := hide ((Below.refl w.heap.size w).grown hgrow0 (Nat.le_refl _) (fun k h => by cases h))
          have O0 : Hid (w0.ownsRow w.heap.size 3 1 (.slice (some ⟨w.heap.size, 0, none⟩) n n) n ((ci (mp (nat xs) (nat ys) (List.replicate n 0) 0)).map (Value.int .i64))) := by
            have := hown0
            unfold Own at this
            rw [List.length_replicate] at this
            have e : (ci (mp (nat xs) (nat ys) (List.replicate n 0) 0)).map (Value.int .i64) = (List.replicate n (0 : Int)).map (Value.int .i64) := by simp [mp, ci]
            rw [← e] at this
            exact this
          clear hown0 hgrow0
          go_loopw [41] (fun vi wr => ∃ k : Nat, k ≤ xs.length ∧ vi = .int .i64 k ∧ wr.ownsRow w.heap.size 3 1 (.slice (some ⟨w.heap.size, 0, none⟩) n n) n ((ci (mp (nat xs) (nat ys) (List.replicate n 0) k)).map (Value.int .i64)) ∧ Below w.heap.size w wr) (fun vi _ => xs.length - (intOf vi).toNat)
          case atStart => exact ⟨0, Nat.zero_le _, rfl, O0.out, B0.out⟩
          case round =>
            obtain ⟨k, hk, rfl, hown, hb⟩ := hrel
            by_cases hlt : k < xs.length
            · have hRd := P.out.below hb
              obtain ⟨pa', pcap', hv, _, _, h3⟩ := hRd
              have hv2 : pa' = pa := by simp at hv; exact hv.1.symm
              subst hv2
              clear hv
              rcases h3 with h3 | ⟨b, off, rfl, hbs, hc⟩
              · subst h3; simp at hlt
              have hc1 := hc k hlt
              clear hc
              obtain ⟨z, hz⟩ : ∃ z, z = xs.getD k 0 := ⟨_, rfl⟩
              have hzb : 0 ≤ z ∧ z ≤ 255 := by rw [hz]; exact goodP_all G.out k hlt
              rw [← hz] at hc1
              have hzn : Hid (z.toNat = (nat xs).getD k 0) := by
                show z.toNat = _
                rw [hz]
                simp only [nat, List.getD_eq_getElem?_getD, List.getElem?_map]
                cases xs[k]? <;> simp
              clear hz
              have O := hide hown
              have Bk := hide hb
              clear hown hb
              have hlen : (mp (nat xs) (nat ys) (List.replicate n 0) k).length = n := by rw [mp_length, List.length_replicate]
              have HL := hide hlen
              clear hlen
              have keep : Hid (∀ w', wr.grownBy w' (some w.heap.size) → Below w.heap.size w w') := fun w' hg => Bk.out.grown hg Bk.out.size (fun k h => by simp at h; omega)
              go_wp2_with fail
              refine (addMultiple_calls _ _ (mp (nat xs) (nat ys) (List.replicate n 0) k) (nat ys) _ _ w.heap.size _ (fun w' hg => T.out.below (keep.out w' hg)) ?o1 ?q1 hzb.1 (by omega) (by omega) ?f1 ?f2 (mp_lt (allLt_zeros n) (nat_ltp GX.out) k) (nat_ltp GY.out) ?f3).mono ?_
              case o1 =>
                show World.ownsRow _ _ _ _ _ (ci _).length _
                rw [ci_length, HL.out]
                exact O.out
              case q1 =>
                intro w' hg
                rw [ci_natp GY.out]
                exact Q.out.below (keep.out w' hg)
              case f1 => rw [nat_length, HL.out]; have := HN.out; omega
              case f2 => rw [HL.out]; omega
              case f3 => rw [HL.out]; omega
              rintro e w2 ⟨rfl, hown2, hg2⟩
              have O2 : Hid (w2.ownsRow w.heap.size 3 1 (.slice (some ⟨w.heap.size, 0, none⟩) n n) n ((ci (mp (nat xs) (nat ys) (List.replicate n 0) (k + 1))).map (Value.int .i64))) := by
                have h := hown2
                unfold Own at h
                rw [ci_length, amTo_length, HL.out, hzn.out, Int.toNat_natCast] at h
                exact h
              have B2 := hide (keep.out w2 hg2)
              clear hown2 hg2
              go_wp2
              go_roundw
              case rel => exact ⟨k + 1, by omega, by go_num, O2.out, B2.out⟩
              case measure => simp [intOf]; omega
            · obtain rfl : k = xs.length := by omega
              go_wp2
              go_ret2
              refine ⟨_, rfl, ?_, hb⟩
              show World.ownsRow _ _ _ _ _ (ci _).length _
              rw [ci_length, mp_length, List.length_replicate]
              exact hown

theorem own_cell {w : World} {base g n cap : Nat} {l : List Nat} (h : w.ownsRow base 3 1 (.slice (some ⟨g, 0, none⟩) n cap) n ((ci l).map (Value.int .i64))) (i : Nat) (hi : i < l.length) :
    w.cell? ⟨g, i, none⟩ = some (.int .i64 (l.getD i 0 : Nat)) := by
  have hn : l.length = n := by have := h.1; simpa [ci] using this
  rw [h.cellAt i (by omega), List.getElem?_map]
  have hl : i < (ci l).length := by rw [ci_length]; exact hi
  rw [List.getElem?_eq_getElem hl]
  have := ci_getD l i
  rw [List.getD_eq_getElem?_getD, List.getElem?_eq_getElem hl, Option.getD_some] at this
  rw [this]; rfl

set_option maxRecDepth 100000 in
set_option maxHeartbeats 1600000 in
theorem l1MulPoly_calls (pv qv : Value) (xs ys : List Int) (w : World) (hp : Rd w pv xs) (hq : Rd w qv ys) (hx : goodP xs = true) (hy : goodP ys = true) :
    Calls Tryd.prog 122 #[pv, qv] w fun e w' => ∃ v', e = .returned v' ∧ Own w' w.heap.size v' (cutL (ci (mp (nat xs) (nat ys) (List.replicate (xs.length + ys.length) 0) xs.length))) ∧ Below w.heap.size w w' := by
  have P := hide hp
  have Q := hide hq
  have GX := hide (goodP_mem hx)
  have GY := hide (goodP_mem hy)
  have lx := goodP_len hx
  have ly := goodP_len hy
  have AX := hide (goodP_all hx)
  have AY := hide (goodP_all hy)
  clear hx hy
  obtain ⟨pa, pcap, rfl, _, _, _⟩ := hp
  obtain ⟨qa, qcap, rfl, _, _, _⟩ := hq
  obtain ⟨n, hn⟩ : ∃ n, n = xs.length + ys.length := ⟨_, rfl⟩
  rw [← hn]
  have en : (xs.length : Int) + (ys.length : Int) = (n : Int) := by omega
  have hn80 : n ≤ 80 := by omega
  have HN := hide hn
  clear hn
  go_enter Tryd.func122, Tryd.ntmps122
  go_wp2_with (at_make; refine wpList_make_ints rfl _ _ rfl w.heap.size _ _ n rfl rfl (by omega) (by omega) (by omega) (Nat.le_refl _) ?_; intro w0 hown0 hgrow0)
  have B0 := hide ((Below.refl w.heap.size w).grown hgrow0 (Nat.le_refl _) (fun k h => by cases h))
  have O0 : Hid (w0.ownsRow w.heap.size 3 1 (.slice (some ⟨w.heap.size, 0, none⟩) n n) n ((ci (mp (nat xs) (nat ys) (List.replicate n 0) 0)).map (Value.int .i64))) := by
    have := hown0
    unfold Own at this
    rw [List.length_replicate] at this
    have e : (ci (mp (nat xs) (nat ys) (List.replicate n 0) 0)).map (Value.int .i64) = (List.replicate n (0 : Int)).map (Value.int .i64) := by simp [mp, ci]
    rw [← e] at this
    exact this
  clear hown0 hgrow0
  go_loopw [18] (fun vi wr => ∃ k : Nat, k ≤ xs.length ∧ vi = .int .i64 k ∧ wr.ownsRow w.heap.size 3 1 (.slice (some ⟨w.heap.size, 0, none⟩) n n) n ((ci (mp (nat xs) (nat ys) (List.replicate n 0) k)).map (Value.int .i64)) ∧ Below w.heap.size w wr) (fun vi _ => xs.length - (intOf vi).toNat)
  case atStart => exact ⟨0, Nat.zero_le _, rfl, O0.out, B0.out⟩
  case round =>
    obtain ⟨k, hk, rfl, hown, hb⟩ := hrel
    by_cases hlt : k < xs.length
    · have hRd := P.out.below hb
      obtain ⟨pa', pcap', hv, _, _, h3⟩ := hRd
      have hv2 : pa' = pa := by simp at hv; exact hv.1.symm
      subst hv2
      clear hv
      rcases h3 with h3 | ⟨b, off, rfl, hbs, hc⟩
      · subst h3; simp at hlt
      have hc1 := hc k hlt
      clear hc
      obtain ⟨F, hF⟩ : ∃ F, F = (nat xs).getD k 0 := ⟨_, rfl⟩
      have hFx : xs.getD k 0 = (F : Int) := by
        have := ci_getD (nat xs) k
        rw [ci_natp GX.out] at this
        rw [this, hF]
      have hF256 : F < 256 := by have := AX.out k hlt; omega
      rw [hFx] at hc1
      have HF := hide hF
      clear hF hFx
      have O := hide hown
      have Bk := hide hb
      have HL : Hid ((mp (nat xs) (nat ys) (List.replicate n 0) k).length = n) := by
        show _ = _
        rw [mp_length, List.length_replicate]
      clear hown hb
      go_wp2
      go_loopw [25] (fun vj wi => ∃ j : Nat, j ≤ ys.length ∧ vj = .int .i64 j ∧ wi.ownsRow w.heap.size 3 1 (.slice (some ⟨w.heap.size, 0, none⟩) n n) n ((ci (amTo (mp (nat xs) (nat ys) (List.replicate n 0) k) (nat ys) F k j)).map (Value.int .i64)) ∧ Below w.heap.size w wi) (fun vj _ => ys.length - (intOf vj).toNat)
      case atStart => exact ⟨0, Nat.zero_le _, rfl, O.out, Bk.out⟩
      case round =>
        obtain ⟨j, hj, rfl, hown, hb⟩ := hrel
        by_cases hlj : j < ys.length
        · have hRd := Q.out.below hb
          obtain ⟨qa', qcap', hv, _, _, h3⟩ := hRd
          have hv2 : qa' = qa := by simp at hv; exact hv.1.symm
          subst hv2
          clear hv
          rcases h3 with h3 | ⟨b2, off2, rfl, hbs2, hc⟩
          · subst h3; simp at hlj
          have hc2 := hc j hlj
          clear hc
          obtain ⟨Z, hZ⟩ : ∃ Z, Z = (nat ys).getD j 0 := ⟨_, rfl⟩
          have hZy : ys.getD j 0 = (Z : Int) := by
            have := ci_getD (nat ys) j
            rw [ci_natp GY.out] at this
            rw [this, hZ]
          have hZ256 : Z < 256 := by have := AY.out j hlj; omega
          rw [hZy] at hc2
          have HZ := hide hZ
          clear hZ hZy
          have hkj : k + j < n := by have := HN.out; omega
          have hc3 := hown.frozenAt (k + j)
          obtain ⟨y, hy⟩ : ∃ y, y = (amTo (mp (nat xs) (nat ys) (List.replicate n 0) k) (nat ys) F k j).getD (k + j) 0 := ⟨_, rfl⟩
          have hy256 : y < 256 := by
            rw [hy]
            exact amTo_lt (mp_lt (allLt_zeros n) (nat_ltp GX.out) k) hF256 j _
          have hc4 := own_cell hown (k + j) (by rw [amTo_length, HL.out]; exact hkj)
          rw [← hy] at hc4
          have HY := hide hy
          clear hy
          have O2 := hide hown
          have B2 := hide hb
          clear hown hb
          have e1 : ((k : Int) + (j : Int)).toNat = k + j := by omega
          have i1 : (0 : Int) ≤ (k : Int) + (j : Int) := by omega
          have i2 : (k : Int) + (j : Int) < (n : Int) := by omega
          have i3 : (j : Int) < (ys.length : Int) := by omega
          have i4 : IntKind.i64.wrap ((k : Int) + (j : Int)) = (k : Int) + (j : Int) := by rw [wrap_i64]; omega
          go_wp2
          go_region_with (go_at_call 128; refine (l1Mul_calls _ _ _ (by omega) (by omega) (by omega) (by omega)).mono ?_; rintro e w' ⟨rfl, rfl⟩)
          all_goals
            go_wp2
            go_roundw
            case rel =>
              refine ⟨j + 1, by omega, by go_num, ?_, ?_⟩
              · have h := (O2.out.stored (k + j) (.int .i64 (y ^^^ mul F Z : Nat))).1
                rw [← List.map_set, ci_set, HY.out, HZ.out] at h
                rw [i64_xor _ _ (by omega) (by have := mul_lt (a := F) (b := Z) (by omega); omega), HY.out, HZ.out]
                exact h.drew
              · exact (B2.out.setCell (Nat.le_refl _) _).drew
            case measure => simp [intOf]; omega
        · obtain rfl : j = ys.length := by omega
          have O2 : Hid (_ ∧ _) := And.intro hown hb
          clear hown hb
          go_wp2
          go_roundw
          case rel =>
            refine ⟨k + 1, by omega, by go_num, ?_, O2.out.2⟩
            have h := O2.out.1
            have e : mp (nat xs) (nat ys) (List.replicate n 0) (k + 1) = amTo (mp (nat xs) (nat ys) (List.replicate n 0) k) (nat ys) F k ys.length := by
              rw [mp, HF.out, nat_length]
            rw [e]
            exact h
          case measure => simp [intOf]; omega
    · obtain rfl : k = xs.length := by omega
      have hfin : Own wr w.heap.size (.slice (some ⟨w.heap.size, 0, none⟩) n n) (ci (mp (nat xs) (nat ys) (List.replicate n 0) xs.length)) := by
        show World.ownsRow _ _ _ _ _ (ci _).length _
        rw [ci_length, mp_length, List.length_replicate]
        exact hown
      have F := hide hfin
      have Bk := hide hb
      clear hown hb hfin
      go_wp2_with fail
      refine (l1Cut_calls _ _ _ F.out.rd (by rw [ci_length, mp_length, List.length_replicate]; omega)).mono ?_
      rintro e w2 ⟨v', rfl, ho2, hb2⟩
      have O2 := hide (Own.mono ho2 Bk.out.size)
      have B2 := hide (Bk.out.trans (hb2.mono Bk.out.size))
      clear ho2 hb2
      go_wp2
      go_ret
      exact ⟨_, rfl, O2.out, B2.out⟩

theorem mp_nil_p {q s0 : List Nat} : mp [] q s0 0 = s0 := rfl
theorem cut_empty {xs ys : List Int} (h : xs.length = 0 ∨ ys.length = 0) : cutL (ci (mp (nat xs) (nat ys) (List.replicate (xs.length + ys.length) 0) xs.length)) = [] := by
  rcases h with h | h
  · have : xs = [] := List.eq_nil_of_length_eq_zero h
    subst this
    exact cutL_zeros _
  · have : ys = [] := List.eq_nil_of_length_eq_zero h
    subst this
    show cutL (ci (mp (nat xs) [] _ _)) = []
    rw [mp_nil_q]
    exact cutL_zeros _

end Gf
end Go.Proofs.YtogopakmebiomaaDoor

namespace Go.Proofs.YtogopakmebiomaaDoor
open Go.RowKit

theorem rd_two {w : World} {y z : Int} : Rd (w.alloc (.cells #[.int .i64 y, .int .i64 z] 3)) (.slice (some ⟨w.heap.size, 0, none⟩) 2 2) [y, z] := by
  refine ⟨_, 2, rfl, Nat.le_refl _, ⟨by unfold maxLen; omega, fun h => by cases h⟩, .inr ⟨_, 0, rfl, by simp, fun i hi => ?_⟩⟩
  match i, hi with
  | 0, _ => exact World.cell?_alloc_at _ _ _ _ (by simp)
  | 1, _ => exact World.cell?_alloc_at _ _ _ _ (by simp)
namespace Gf

def wOk (t : Int) : Bool := decide (1 ≤ t ∧ t ≤ 3)
theorem wOk_iff {t : Int} : wOk t = true ↔ 1 ≤ t ∧ t ≤ 3 := by simp [wOk]
theorem wOk_no {t : Int} : wOk t = false ↔ ¬ (1 ≤ t ∧ t ≤ 3) := by simp [wOk]
set_option maxRecDepth 100000 in
theorem isWrong_calls (t : Int) (w : World) :
    Calls Tryd.prog 64 #[.int .i64 t] w fun e w' => e = .returned (.bool (wOk t)) ∧ w = w' := by
  by_cases h : 1 ≤ t
  · by_cases h2 : t ≤ 3
    · rw [wOk_iff.2 ⟨h, h2⟩]
      go_enter Tryd.func64, Tryd.ntmps64
      go_wp2
      go_ret
      exact ⟨rfl, rfl⟩
    · rw [wOk_no.2 (by omega)]
      go_enter Tryd.func64, Tryd.ntmps64
      go_wp2
      go_ret
      exact ⟨rfl, rfl⟩
  · rw [wOk_no.2 (by omega)]
    go_enter Tryd.func64, Tryd.ntmps64
    go_wp2
    go_ret
    exact ⟨rfl, rfl⟩
theorem checksOf_calls (t : Nat) (w : World) (h : t ≤ 1048576) :
    Calls Tryd.prog 65 #[.int .i64 t] w fun e w' => e = .returned (.int .i64 ((2 * t : Nat) : Int)) ∧ w = w' := by
  go_enter Tryd.func65, Tryd.ntmps65
  go_wp2
  go_ret
  exact ⟨by congr 2, rfl⟩
set_option maxRecDepth 100000 in
theorem l4Wrong_calls (t : Int) (w : World) :
    Calls Tryd.prog 62 #[.int .i64 t] w fun e w' => e = .returned (.bool (wOk t)) ∧ w = w' := by
  go_enter Tryd.func62, Tryd.ntmps62
  go_wp2_with (go_at_call 68; refine (l1In_calls _ _ _ _).mono ?_; rintro e w' ⟨rfl, rfl⟩)
  go_ret
  exact ⟨ret_bool (by simp [wOk]), rfl⟩

/-- The product of the first k factors. -/
def genI : Nat → List Int
  | 0 => [1]
  | k + 1 => (mulR (genI k) [((pow 2 k : Nat) : Int), 1]).1
def genS (k : Nat) : List Int := cutL (ci (mp (nat (genI k)) (nat [((pow 2 k : Nat) : Int), 1]) (List.replicate ((genI k).length + [((pow 2 k : Nat) : Int), 1].length) 0) (genI k).length))
theorem gen_tab : allB 7 (fun k => goodP (genI k) && ((genI k).length == k + 1)) = true := by decide +kernel
theorem gen_tab2 : allB 6 (fun k => (mulR (genI k) [((pow 2 k : Nat) : Int), 1]).2 && (genS k == genI (k + 1))) = true := by decide +kernel
theorem gen_facts {k : Nat} (hk : k ≤ 6) : goodP (genI k) = true ∧ (genI k).length = k + 1 := by
  have := allB_of gen_tab k (by omega)
  simpa using this
theorem gen_next {k : Nat} (hk : k < 6) : (mulR (genI k) [((pow 2 k : Nat) : Int), 1]).2 = true ∧ genS k = genI (k + 1) := by
  have := allB_of gen_tab2 k hk
  simpa using this
theorem two_good {x : Nat} (h : x < 256) : goodP [(x : Int), 1] = true := by
  simp [goodP, elOk]
  omega
def genR (t : Int) : List Int × Bool := if wOk t = true then (genI (2 * t.toNat), true) else ([], false)
theorem genR_len (t : Int) : (genR t).1.length ≤ 1048576 := by
  unfold genR
  split
  next h =>
    have := wOk_iff.1 h
    show (genI (2 * t.toNat)).length ≤ _
    rw [(gen_facts (k := 2 * t.toNat) (by omega)).2]
    omega
  next => show 0 ≤ _; omega
theorem genR_yes {t : Int} (h : wOk t = true) : genR t = (genI (2 * t.toNat), true) := if_pos h
theorem genR_no {t : Int} (h : wOk t = false) : genR t = ([], false) := if_neg (by rw [h]; decide)

set_option maxRecDepth 100000 in
set_option maxHeartbeats 1600000 in
theorem generatorOf_calls (t : Int) (w : World) (hT : Tab w) :
    Calls Tryd.prog 14 #[.int .i64 t] w fun e w' => ∃ v', e = .returned (.tuple #[v', .bool (genR t).2]) ∧ Own w' w.heap.size v' (genR t).1 ∧ Below w.heap.size w w' := by
  have T := hide hT
  clear hT
  cases hw : wOk t with
  | false =>
    have G := hide hw
    rw [genR_no hw]
    clear hw
    go_enter Tryd.func14, Tryd.ntmps14
    go_wp2_with fail
    refine (isWrong_calls t _).mono ?_
    rw [G.out]
    rintro e w' ⟨rfl, rfl⟩
    go_wp2
    go_ret2
    exact ⟨_, rfl, own_nil _ _, Below.refl _ _⟩
  | true =>
    rw [genR_yes hw]
    obtain ⟨h1, h3⟩ := wOk_iff.1 hw
    obtain ⟨n, rfl⟩ := Int.eq_ofNat_of_zero_le (a := t) (by omega)
    have G := hide hw
    rw [Int.toNat_natCast]
    clear hw
    go_enter Tryd.func14, Tryd.ntmps14
    go_wp2_with fail
    refine (isWrong_calls _ _).mono ?_
    rw [G.out]
    rintro e w' ⟨rfl, rfl⟩
    go_wp2_with fail
    refine (checksOf_calls n _ (by omega)).mono ?_
    rintro e w' ⟨rfl, rfl⟩
    obtain ⟨N, hN⟩ : ∃ N, N = 2 * n := ⟨_, rfl⟩
    rw [← hN]
    have hN6 : N ≤ 6 := by omega
    have HN := hide hN
    clear hN
    go_wp2
    go_loopw [4, 12] (fun vg vk wr => ∃ k : Nat, k ≤ N ∧ vk = .int .i64 k ∧ Own wr w.heap.size vg (genI k) ∧ Below w.heap.size w wr) (fun _ vk _ => N - (intOf vk).toNat)
    case atStart =>
      refine ⟨0, Nat.zero_le _, rfl, ?_, (Below.refl _ _).alloc (Nat.le_refl _) _⟩
      exact World.ownsRow_lit w #[.int .i64 1] 1 (Nat.le_refl _) (by decide) (by rfl)
    case round =>
      obtain ⟨k, hk, rfl, ho, hb⟩ := hrel
      have O := hide ho
      have B := hide hb
      clear ho hb
      by_cases hlt : k < N
      · have hlt' : (k : Int) < (N : Int) := by omega
        go_wp2_with fail
        refine (powE_calls 2 k _ (T.out.below B.out) (by omega) (by omega) (by omega) (by omega)).mono ?_
        rintro e w' ⟨rfl, rfl⟩
        rw [Int.toNat_natCast]
        obtain ⟨x, hx⟩ : ∃ x, x = pow 2 k := ⟨_, rfl⟩
        rw [show pow (Int.toNat 2) k = x from hx.symm]
        have X := hide hx
        have hx256 : x < 256 := by rw [hx]; exact pow_lt _ _
        clear hx
        have hsz := B.out.size
        go_wp2_with fail
        refine (mulPoly_calls _ _ (genI k) [(x : Int), 1] _ ((T.out.below B.out).below ((Below.refl _ _).alloc (Nat.le_refl _) _)) (O.out.rd.below ((Below.refl _ _).alloc (Nat.le_refl _) _)) rd_two).mono ?_
        rintro e w1 ⟨v1, rfl, ho1, hb1⟩
        have O1 : Hid (Own w1 w.heap.size v1 (genI (k + 1))) := by
          have := ho1.mono (base' := w.heap.size) (by simp; omega)
          rw [X.out] at this
          exact this
        have B1 := hide ((B.out.alloc hsz _).trans (hb1.mono (by simp; omega)))
        clear ho1 hb1 O
        go_wp2
        go_roundw
        case rel => exact ⟨k + 1, by omega, by go_num, O1.out, B1.out⟩
        case measure => simp [intOf]; omega
      · obtain rfl : k = N := by omega
        go_wp2
        go_ret2
        exact ⟨_, rfl, by rw [← HN.out]; exact O.out, B.out⟩

set_option maxRecDepth 100000 in
set_option maxHeartbeats 1600000 in
theorem l4Generator_calls (n : Nat) (w : World) (h3 : n ≤ 3) :
    Calls Tryd.prog 63 #[.int .i64 n] w fun e w' => ∃ v', e = .returned v' ∧ Own w' w.heap.size v' (genI (2 * n)) ∧ Below w.heap.size w w' := by
  go_enter Tryd.func63, Tryd.ntmps63
  go_wp2
  go_loopw [3, 4] (fun vg vk wr => ∃ k : Nat, k ≤ 2 * n ∧ vk = .int .i64 k ∧ Own wr w.heap.size vg (genI k) ∧ Below w.heap.size w wr) (fun _ vk _ => 2 * n - (intOf vk).toNat)
  case atStart =>
    refine ⟨0, Nat.zero_le _, rfl, ?_, (Below.refl _ _).alloc (Nat.le_refl _) _⟩
    exact World.ownsRow_lit w #[.int .i64 1] 1 (Nat.le_refl _) (by decide) (by rfl)
  case round =>
    obtain ⟨k, hk, rfl, ho, hb⟩ := hrel
    have O := hide ho
    have B := hide hb
    clear ho hb
    by_cases hlt : k < 2 * n
    · have hlt' : (k : Int) < 2 * (n : Int) := by omega
      go_wp2_with fail
      refine (l1Pow_calls 2 k _ (by omega) (by omega) (by omega) (by omega)).mono ?_
      rintro e w' ⟨rfl, rfl⟩
      rw [Int.toNat_natCast]
      obtain ⟨x, hx⟩ : ∃ x, x = pow 2 k := ⟨_, rfl⟩
      rw [show pow (Int.toNat 2) k = x from hx.symm]
      have X := hide hx
      have hx256 : x < 256 := by rw [hx]; exact pow_lt _ _
      clear hx
      have hsz := B.out.size
      go_wp2_with fail
      refine (l1MulPoly_calls _ _ (genI k) [(x : Int), 1] _ (O.out.rd.below ((Below.refl _ _).alloc (Nat.le_refl _) _)) rd_two (gen_facts (by omega)).1 (two_good hx256)).mono ?_
      rintro e w1 ⟨v1, rfl, ho1, hb1⟩
      have O1 : Hid (Own w1 w.heap.size v1 (genI (k + 1))) := by
        have := ho1.mono (base' := w.heap.size) (by simp; omega)
        rw [X.out] at this
        have e := (gen_next (k := k) (by omega)).2
        rw [← e]
        exact this
      have B1 := hide ((B.out.alloc hsz _).trans (hb1.mono (by simp; omega)))
      clear ho1 hb1 O
      go_wp2
      go_roundw
      case rel => exact ⟨k + 1, by omega, by go_num, O1.out, B1.out⟩
      case measure => simp [intOf]; omega
    · obtain rfl : k = 2 * n := by omega
      have hlt' : ¬ ((2 * n : Nat) : Int) < 2 * (n : Int) := by omega
      go_wp2
      go_ret
      exact ⟨_, rfl, O.out, B.out⟩

set_option maxRecDepth 100000 in
set_option maxHeartbeats 1600000 in
theorem sGeneratorOf_calls (t : Int) (w : World) :
    Calls Tryd.prog 13 #[.int .i64 t] w fun e w' => ∃ v', e = .returned (.tuple #[v', .bool (genR t).2]) ∧ Own w' w.heap.size v' (genR t).1 ∧ Below w.heap.size w w' := by
  cases hw : wOk t with
  | false =>
    have G := hide hw
    rw [genR_no hw]
    clear hw
    go_enter Tryd.func13, Tryd.ntmps13
    go_wp2_with fail
    refine (l4Wrong_calls t _).mono ?_
    rw [G.out]
    rintro e w' ⟨rfl, rfl⟩
    go_wp2
    go_ret2
    exact ⟨_, rfl, own_nil _ _, Below.refl _ _⟩
  | true =>
    rw [genR_yes hw]
    obtain ⟨h1, h3⟩ := wOk_iff.1 hw
    obtain ⟨n, rfl⟩ := Int.eq_ofNat_of_zero_le (a := t) (by omega)
    have G := hide hw
    rw [Int.toNat_natCast]
    clear hw
    go_enter Tryd.func13, Tryd.ntmps13
    go_wp2_with fail
    refine (l4Wrong_calls _ _).mono ?_
    rw [G.out]
    rintro e w' ⟨rfl, rfl⟩
    go_wp2_with fail
    refine (l4Generator_calls n _ (by omega)).mono ?_
    rintro e w1 ⟨v1, rfl, ho1, hb1⟩
    have O1 := hide ho1
    have B1 := hide hb1
    clear ho1 hb1
    go_wp2
    go_ret2
    exact ⟨_, rfl, O1.out, B1.out⟩
end Gf
end Go.Proofs.YtogopakmebiomaaDoor
