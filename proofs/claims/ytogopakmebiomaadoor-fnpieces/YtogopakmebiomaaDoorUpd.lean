/-
  UpdatePiece: the program's function, at all arguments. The program's table of rests must hold its seven numbers.
-/
import Derived.Test.YtogopakmebiomaaDoorCheck
import Derived.Test.YtogopakmebiomaaDoorGauss
import Derived.Test.YtogopakmebiomaaDoorCp
namespace Go.Proofs.YtogopakmebiomaaDoor
open Go.RowKit
open Gf (ci nat amTo AllLt addRow)

def ovTo (U m : List (List Int)) (j : Nat) : List (List Int) := U.take j ++ m.drop j
theorem ovTo_length {U m : List (List Int)} (h : U.length = m.length) (j : Nat) : (ovTo U m j).length = m.length := by simp [ovTo]; omega
theorem ovTo_zero (U m : List (List Int)) : ovTo U m 0 = m := by simp [ovTo]
theorem ovTo_end {U m : List (List Int)} (h : U.length = m.length) : ovTo U m m.length = U := by simp [ovTo, ← h]
theorem ovTo_get {U m : List (List Int)} (h : U.length = m.length) (j : Nat) (hj : j < m.length) : (ovTo U m j).getD j [] = m.getD j [] := by
  unfold ovTo
  rw [getD_app, List.length_take, if_neg (by omega)]
  have : j - min j U.length = 0 := by omega
  rw [this]
  simp [List.getD_eq_getElem?_getD]
theorem ovTo_step {U m : List (List Int)} (h : U.length = m.length) (j : Nat) (hj : j < m.length) : (ovTo U m j).set j (U.getD j []) = ovTo U m (j + 1) := by
  have e1 : (U.take j).length = j := by rw [List.length_take]; omega
  unfold ovTo
  rw [List.set_append_right _ _ (by omega), e1, Nat.sub_self, List.drop_eq_getElem_cons hj, List.set_cons_zero, take_snoc U [] j (by omega), List.append_assoc]
  rfl
theorem addRow_one {s q : List Nat} (hs : AllLt s) (hq : AllLt q) (hl : s.length = q.length) : addRow s q 1 = addRow q s 1 := by
  unfold addRow
  apply List.ext_getElem
  · simp [hl]
  · intro i h1 h2
    simp only [List.length_zipWith] at h1
    have a1 := hs i
    have a2 := hq i
    rw [List.getD_eq_getElem?_getD, List.getElem?_eq_getElem (by omega), Option.getD_some] at a1 a2
    simp only [List.getElem_zipWith]
    rw [Gf.one_mul _ a1, Gf.one_mul _ a2, Nat.xor_comm]

/-- What a piece changes by. -/
def difN (m : List (List Int)) (K : Nat) (p : List Int) : List Nat := addRow (nat p) (nat (m.getD K [])) 1
def facN (D Q K i : Nat) : Nat := (nat ((codeM D Q).getD i [])).getD K 0
def updRow (D Q K : Nat) (m : List (List Int)) (p : List Int) (i : Nat) : List Int := ci (amTo (nat (m.getD i [])) (difN m K p) (facN D Q K i) 0 (difN m K p).length)
def updM (D Q K : Nat) (m : List (List Int)) (p : List Int) : List (List Int) := (List.range m.length).map (updRow D Q K m p)
theorem updM_length (D Q K : Nat) (m : List (List Int)) (p : List Int) : (updM D Q K m p).length = m.length := by simp [updM]
theorem updM_get (D Q K : Nat) (m : List (List Int)) (p : List Int) (i : Nat) (h : i < m.length) : (updM D Q K m p).getD i [] = updRow D Q K m p i := by simp [updM, h]
def updOk (d q : Int) (m : List (List Int)) (k : Int) (p : List Int) : Bool := chkOk d q m && (decide (0 ≤ k ∧ k < d) && (decide (p.length = (m.getD 0 []).length) && p.all Gf.elOk))
def updR (d q : Int) (m : List (List Int)) (k : Int) (p : List Int) : List (List Int) × Bool := if updOk d q m k p = true then (updM d.toNat q.toNat k.toNat m p, true) else ([], false)
structure UpdF (D Q K l : Nat) (m : List (List Int)) (p : List Int) : Prop where
  d1 : 1 ≤ D
  d2 : D ≤ 6
  q1 : 1 ≤ Q
  q2 : Q ≤ 4
  k1 : K < D
  ml : m.length = D + Q
  ok : piecesOk m = true
  l0 : (m.getD 0 []).length = l
  pl : p.length = l
  pe : p.all Gf.elOk = true
theorem UpdF.row {D Q K l : Nat} {m : List (List Int)} {p : List Int} (h : UpdF D Q K l m p) (i : Nat) (hi : i < m.length) : (m.getD i []).length = l ∧ l ≤ 32 ∧ (m.getD i []).all Gf.elOk = true := by
  have := piecesOk_at h.ok i hi
  rw [h.l0] at this
  exact ⟨this.1, by omega, this.2.2⟩
theorem UpdF.dif {D Q K l : Nat} {m : List (List Int)} {p : List Int} (h : UpdF D Q K l m p) : (difN m K p).length = l ∧ AllLt (difN m K p) := by
  have hk := h.row K (by have := h.k1; have := h.ml; omega)
  refine ⟨?_, Gf.addRow_lt (Gf.nat_lt h.pe) (by omega)⟩
  unfold difN
  rw [Gf.addRow_length _ _ _ (by rw [Gf.nat_length, Gf.nat_length, hk.1, h.pl]), Gf.nat_length, h.pl]
theorem UpdF.fac {D Q K l : Nat} {m : List (List Int)} {p : List Int} (h : UpdF D Q K l m p) (i : Nat) (hi : i < m.length) : ((codeM D Q).getD i []).length = D ∧ facN D Q K i < 256 ∧ ((codeM D Q).getD i []).getD K 0 = ((facN D Q K i : Nat) : Int) := by
  have hr := codeM_rows D Q i (by rw [codeM_length, ← h.ml]; exact hi)
  refine ⟨hr.1, Gf.nat_lt hr.2 K, ?_⟩
  have := Gf.ci_getD (nat ((codeM D Q).getD i [])) K
  rw [Gf.ci_nat hr.2] at this
  exact this
theorem updR_tot (d q : Int) (m : List (List Int)) (k : Int) (p : List Int) : (updR d q m k p).1.length + tot (updR d q m k p).1 ≤ 1048576 := by
  unfold updR
  split
  · rename_i h
    simp only [updOk, Bool.and_eq_true] at h
    obtain ⟨c1, c2, c3⟩ := chkOk_facts h.1
    obtain ⟨f1, f2, f3, f4⟩ := codeOk_facts c1
    simp only []
    have hr : ∀ i, i < m.length → ((updM d.toNat q.toNat k.toNat m p).getD i []).length ≤ 32 := fun i hi => by
      rw [updM_get _ _ _ _ _ _ hi, updRow, Gf.ci_length, Gf.amTo_length, Gf.nat_length]
      exact (piecesOk_at c3 i hi).2.1
    have : ∀ j, j ≤ m.length → tot ((updM d.toNat q.toNat k.toNat m p).take j) ≤ 32 * j := by
      intro j
      induction j with
      | zero => intro _; simp [tot]
      | succ j ih =>
        intro hj
        rw [tot_take_succ _ j (by rw [updM_length]; omega)]
        have := ih (by omega)
        have := hr j (by omega)
        omega
    have := this m.length (Nat.le_refl _)
    rw [List.take_of_length_le (by rw [updM_length]; exact Nat.le_refl _)] at this
    rw [updM_length]
    omega
  · simp [tot]

set_option maxRecDepth 100000 in
set_option maxHeartbeats 3200000 in
theorem updatePiece_good (D Q K l : Nat) (mv pv : Value) (m : List (List Int)) (p : List Int) (w : World) (hT : Gf.Tab w) (hm : RdM w mv m) (hp : Rd w pv p) (hf : UpdF D Q K l m p) :
    Calls Tryd.prog 52 #[.int .i64 D, .int .i64 Q, mv, .int .i64 K, pv] w fun e w' => ∃ v', e = .returned (.tuple #[v', .bool true]) ∧ Mat w' w.heap.size w'.heap.size v' (updM D Q K m p) ∧ Below w.heap.size w w' := by
  have RM := hide hm
  have RP := hide hp
  have T := hide hT
  have F := hide hf
  obtain ⟨ma, mcap, hmv, _⟩ := hm
  obtain ⟨pa, pcap, hpv, _⟩ := hp
  obtain ⟨n, hn⟩ : ∃ n, n = m.length := ⟨_, rfl⟩
  rw [← hn] at hmv
  rw [hf.pl] at hpv
  subst hmv hpv
  have hnDQ : n = D + Q := by rw [hn]; exact hf.ml
  have d1 := hf.d1
  have d2 := hf.d2
  have q1 := hf.q1
  have q2 := hf.q2
  have k1 := hf.k1
  have l32 : l ≤ 32 := (hf.row 0 (by omega)).2.1
  have hchk : chkOk (D : Int) (Q : Int) m = true := by
    rw [chkOk, codeOk_yes (by omega), decide_eq_true (show (m.length : Int) = (D : Int) + (Q : Int) by omega), hf.ok]; rfl
  have CK := hide hchk
  have HN := hide hn
  have NDQ := hide hnDQ
  have nb : n ≤ 10 := by have := hf.d2; have := hf.q2; omega
  obtain ⟨mb, moff, mu, rfl, hmb, hmc, hmu⟩ := RM.out.rowAt K (by omega)
  have hrk := hf.row K (by omega)
  have UK := hide hmu
  obtain ⟨ka, kcap, hkv, _⟩ := hmu
  rw [hrk.1] at hkv
  subst hkv
  have RK := hide hrk
  have t1 : ((l : Int) != (l : Int)) = false := by simp
  have i0 : ¬ (K : Int) < 0 := by omega
  have i1 : ¬ (D : Int) ≤ (K : Int) := by omega
  have i2 : (0 : Int) ≤ (K : Int) := by omega
  have i3 : (K : Int) < (n : Int) := by omega
  have i4 : (K : Int) < (D : Int) := by omega
  obtain ⟨U, hU⟩ : ∃ U, U = updM D Q K m p := ⟨_, rfl⟩
  rw [← hU]
  have UL : Hid (U.length = m.length) := by rw [hU]; exact updM_length _ _ _ _ _
  have UG : Hid (∀ i, i < m.length → U.getD i [] = updRow D Q K m p i) := fun i hi => by rw [hU, updM_get _ _ _ _ _ _ hi]
  have MC := hide hmc
  have PE := hide hf.pe
  clear hT hf hn hnDQ hchk hrk hU hmc
  go_enter Tryd.func52, Tryd.ntmps52
  go_wp2_with fail
  rw [HN.out]
  refine (areCodePieces_calls _ _ _ m _ (by rw [← HN.out]; exact RM.out)).mono ?_
  rw [CK.out, ← HN.out]
  rintro e w1 ⟨rfl, hb1⟩
  have B1 := hide hb1
  have hmc1 : w1.cell? ⟨mb, moff + K, none⟩ = _ := (hb1.cell (p := ⟨mb, moff + K, none⟩) hmb).trans MC.out
  clear hb1
  go_wp2_with fail
  refine (Gf.areElements_calls _ p _ (RP.out.below B1.out)).mono ?_
  rw [PE.out]
  rintro e w1' ⟨rfl, rfl⟩
  have N1 := hide (Gf.tab_pos (Gf.Tab.below T.out B1.out))
  go_wp2_with fail
  refine (copyList_calls _ p _ (RP.out.below B1.out) (by rw [F.out.pl]; omega)).mono ?_
  rintro e w2 ⟨v2, rfl, ho2, hb2⟩
  rw [← Gf.ci_nat PE.out] at ho2
  have B2 := hide (B1.out.trans (hb2.mono B1.out.size))
  have s12 := hb2.size
  have O2 := hide ho2
  have hmc2 : w2.cell? ⟨mb, moff + K, none⟩ = _ := (B2.out.cell (p := ⟨mb, moff + K, none⟩) hmb).trans MC.out
  have T2 := hide (Gf.Tab.below T.out B2.out)
  have TOP2 := hide ho2.top
  have TG : Hid (∀ w', w2.grownBy w' v2.ownBlock → Gf.Tab w') := fun w' hg => Gf.tab_grown T2.out hg (fun k hk => by have := (World.ownsRow.lt O2.out k hk).1; have := N1.out; omega)
  have s01 := B1.out.size
  have QG : Hid (∀ w', w2.grownBy w' v2.ownBlock → Rd w' (.slice ka l kcap) (ci (nat (m.getD K [])))) := fun w' hg => by
    rw [Gf.ci_nat RK.out.2.2]
    exact UK.out.below (B2.out.grown hg B2.out.size (fun k hk => by have := (World.ownsRow.lt O2.out k hk).1; omega))
  clear hb2 ho2
  go_wp2_with fail
  refine (addMultiple_any v2 _ (nat p) (nat (m.getD K [])) 1 0 w1.heap.size _ TG.out O2.out QG.out (by omega) (by omega) (by omega) (by rw [Gf.nat_length, Gf.nat_length, RK.out.1, F.out.pl]; omega) (by rw [Gf.nat_length, F.out.pl]; omega) (Gf.nat_lt PE.out) (Gf.nat_lt RK.out.2.2)).mono ?_
  rintro e w3 ⟨rfl, ho3, hg3⟩
  obtain ⟨q, hq⟩ : ∃ q, q = difN m K p := ⟨_, rfl⟩
  have hq3 : amTo (nat p) (nat (m.getD K [])) (Int.toNat 1) (Int.toNat 0) (nat (m.getD K [])).length = q := by
    rw [hq]
    exact Gf.amTo_add _ _ _ (by rw [Gf.nat_length, Gf.nat_length, RK.out.1, F.out.pl])
  rw [hq3] at ho3
  have QD : Hid (q.length = l ∧ AllLt q) := by rw [hq]; exact F.out.dif
  have QE := hide hq
  have hb3 : Below w.heap.size w w3 := B2.out.grown hg3 B2.out.size (fun k hk => by have := (World.ownsRow.lt O2.out k hk).1; omega)
  have O3 := hide ho3
  have s23 := hg3.size
  have TOP3 : Hid (∀ k, v2.ownBlock = some k → k < w2.heap.size) := TOP2.out
  have B3 := hide hb3
  clear ho3 hg3 hq3 hq hb3
  go_wp2_with fail
  rw [HN.out]
  refine (rowsFrom_calls _ m 0 _ (by rw [← HN.out]; exact RM.out.below B3.out) (by rw [← HN.out]; omega) (fun i hi => ⟨Nat.zero_le _, by rw [(F.out.row i hi).1]; omega⟩)).mono ?_
  rw [← HN.out]
  rintro e w4 ⟨v4, rfl, hm4, hb4⟩
  have hd0 : dropM m 0 = m := by simp [dropM]
  rw [hd0] at hm4
  have B4 := hide (B3.out.trans (hb4.mono B3.out.size))
  have s34 := hb4.size
  have O4 := hide (O3.out.below hb4)
  have M4 := hide hm4
  clear hm4 hb4 hd0
  go_wp2_with fail
  refine (codeRows_calls D Q _ (Gf.Tab.below T.out B4.out) d1 d2 q1 q2).mono ?_
  rintro e w5 ⟨v5, rfl, ⟨vs5, hm5⟩, hb5⟩
  obtain ⟨vs, hm45⟩ := M4.out.below hb5
  have B5 := hide (B4.out.trans (hb5.mono B4.out.size))
  have O5 := hide (O4.out.below hb5)
  have s45 := hb5.size
  obtain ⟨g, cap, hv4, hg1, hg2, hg3, hg4⟩ := hm45.open (by rw [← HN.out]; omega)
  rw [← HN.out] at hv4
  subst hv4
  obtain ⟨g5, cap5, hv5, hq1, hq2, hq3, hq4⟩ := hm5.open (by rw [codeM_length]; omega)
  rw [codeM_length, ← NDQ.out] at hv5
  subst hv5
  have M5 := hide hm5
  have M45 := hide hm45
  clear hm5 hm45 hb5
  go_wp2
  go_loopw [57] (fun vi wr => ∃ (i : Nat), i ≤ n ∧ vi = .int .i64 i ∧ MatV wr w3.heap.size w4.heap.size (.slice (some ⟨g, 0, none⟩) n cap) vs (ovTo U m i) ∧ Chg w3.heap.size w4.heap.size w5 wr) (fun vi _ => n - (intOf vi).toNat)
  case atStart =>
    refine ⟨0, Nat.zero_le _, rfl, ?_, Chg.refl _ _ _⟩
    rw [ovTo_zero]
    exact M45.out
  case round =>
    obtain ⟨i, hi, rfl, hM, hC⟩ := hrel
    by_cases hlt : i < n
    · have hlt' : (i : Int) < (n : Int) := by omega
      have hlm : i < m.length := by rw [← HN.out]; exact hlt
      have hM5 := M5.out.chg hC (.inr (Nat.le_refl _))
      have hc5 := hM5.cell i (by rw [codeM_length, ← NDQ.out]; exact hlt)
      have hr5 := hM5.row i (by rw [codeM_length, ← NDQ.out]; exact hlt)
      obtain ⟨x, hx⟩ : ∃ x, x = facN D Q K i := ⟨_, rfl⟩
      obtain ⟨fl, fx, fg⟩ := F.out.fac i hlm
      rw [← hx] at fx fg
      obtain ⟨gr, capr, hur, hz1, hz2, hz3, hz4⟩ := hr5.open1 (by rw [fl]; omega)
      rw [hur] at hc5 hr5
      obtain ⟨_, hrc⟩ := hr5.at K (by rw [fl]; exact k1)
      rw [fg] at hrc
      rw [fl] at hc5
      obtain ⟨sr, hsr⟩ : ∃ s, s = nat (m.getD i []) := ⟨_, rfl⟩
      have hrow := F.out.row i hlm
      have hsl : sr.length = l := by rw [hsr, Gf.nat_length, hrow.1]
      have hslt : AllLt sr := by rw [hsr]; exact Gf.nat_lt hrow.2.2
      have hci : ci sr = m.getD i [] := by rw [hsr]; exact Gf.ci_nat hrow.2.2
      have hkl : i < (ovTo U m i).length := by rw [ovTo_length UL.out]; exact hlm
      have hcu := hM.cell i hkl
      have hro := hM.row i hkl
      rw [ovTo_get UL.out i hlm, ← hci] at hro
      obtain ⟨u, hu⟩ : ∃ u, u = vs.getD i nilRow := ⟨_, rfl⟩
      rw [← hu] at hcu hro
      have hnext : U.getD i [] = ci (amTo sr q x 0 q.length) := by
        rw [UG.out i hlm, updRow, ← QE.out, ← hx, ← hsr]
      have hO := Own.chg O5.out TOP3.out hC (.inl s23)
      have BW := hide (B5.out.trans (hC.below (by omega) (by omega)))
      have TT := hide (Gf.Tab.below T.out BW.out)
      have O := hide hro
      have OD := hide hO
      have U0 := hide hu
      have M := hide hM
      have C := hide hC
      have NX := hide hnext
      have SL := hide hsl
      have SLT := hide hslt
      have KL := hide hkl
      have i5 : (0 : Int) ≤ (i : Int) := by omega
      have TG2 : Hid (∀ w', wr.grownBy w' u.ownBlock → Gf.Tab w') := fun w' hg => Gf.tab_grown TT.out hg (fun k hk => by have := (World.ownsRow.lt O.out k hk).1; have := N1.out; omega)
      have QG2 : Hid (∀ w', wr.grownBy w' u.ownBlock → Rd w' v2 (ci q)) := fun w' hg => by
        refine Own.rd (base := w1.heap.size) (World.ownsRow.kept OD.out hg ?_)
        cases hv : v2.ownBlock with
        | none => exact .inl rfl
        | some b =>
          right
          intro e
          have h1 := TOP3.out b hv
          have h2 := (World.ownsRow.lt O.out b e.symm).1
          omega
      clear hM hC hM5 hr5 hro hO hu hnext hsl hslt hci hkl hrow hsr hx fg
      go_wp2
      go_region_with (go_at_call 84; refine (addMultiple_any u v2 sr q x 0 w3.heap.size wr.drew (fun w' hg => TG2.out w' ⟨hg.os, hg.tape, hg.output, hg.size, hg.block⟩) (by exact O.out.drew) (fun w' hg => QG2.out w' ⟨hg.os, hg.tape, hg.output, hg.size, hg.block⟩) (by omega) (by omega) (by omega) (by rw [QD.out.1, SL.out]; omega) (by rw [SL.out]; omega) SLT.out QD.out.2).mono ?_; rintro e w' ⟨rfl, ho, hg⟩)
      all_goals
        have ho2 : Own w' w3.heap.size (vs.getD i nilRow) (U.getD i []) := by
          rw [NX.out, ← U0.out]
          simpa using ho
        have hg2' : wr.grownBy w' (vs.getD i nilRow).ownBlock := by
          rw [← U0.out]
          exact ⟨hg.os, hg.tape, hg.output, hg.size, hg.block⟩
        have W2 := hide (M.out.write i KL.out _ ho2 hg2')
        have C3 := hide (C.out.trans (M.out.writeChg i KL.out hg2'))
        clear ho hg ho2 hg2'
        go_wp2
        go_roundw
        case rel =>
          refine ⟨i + 1, by omega, by go_num, ?_, C3.out⟩
          have := W2.out
          rw [ovTo_step UL.out i hlm] at this
          exact this
        case measure => simp [intOf]; omega
    · obtain rfl : i = n := by omega
      have M := hide hM
      have C := hide hC
      clear hM hC
      go_wp2
      go_ret2
      have hm := M.out
      have e := ovTo_end UL.out
      rw [← HN.out] at e
      rw [e] at hm
      have sC := C.out.size
      exact ⟨_, rfl, ⟨_, hm.wider B3.out.size (by omega)⟩, B5.out.trans (C.out.below (by omega) B5.out.size)⟩
end Go.Proofs.YtogopakmebiomaaDoor
