/-
  Pieces written: the program's writePieces. The contract says what it asks. 'append(l, k)': one integer behind a row of the call's own, and where it lies then. No call is walked here.
-/
import Derived.Test.YtbgadbokejaomaaGreatDoorWriteStripeB14
import Derived.Test.YtbgadbokejaomaaGreatDoorWriteStripeB18
import Derived.Deep.RegionHeld3
import Derived.Test.YtbgadbokejaomaaGreatDoorWriteStripeB4
import Derived.Deep.AppendLies
namespace Go.Proofs.YtbgadbokejaomaaGreatDoor
open Go.RowKit
open Gf (ci nat)
set_option linter.unusedVariables false

/-- A piece's sector. -/
def scT (A : Nat) (E : Int) (row : List Nat) : ByteArray := (frR 2 (A : Int) E (ofN row)).1
/-- What is held behind the first writes. -/
def wrTo (H : List ByteArray) (A : Nat) (E : Int) (m : List (List Nat)) (ks : List Nat) : Nat → List ByteArray
  | 0 => H
  | j + 1 => (wrTo H A E m ks j).set (A + ks.getD j 0) (scT (A + ks.getD j 0) E (m.getD (ks.getD j 0) []))
def wOk (B : List Bool) (A : Nat) (E : Int) (ks : List Nat) (n : Nat) : Prop := ∀ j, j < n → (0 ≤ E ∧ E ≤ 60000) ∧ B.getD (A + ks.getD j 0) false = false
def ifT {α : Type} (ok : Bool) (l : List α) : List α := if ok = true then l else []
theorem wrTo_length (H : List ByteArray) (A : Nat) (E : Int) (m : List (List Nat)) (ks : List Nat) : ∀ j, (wrTo H A E m ks j).length = H.length
  | 0 => rfl
  | j + 1 => by rw [wrTo, List.length_set, wrTo_length H A E m ks j]
theorem sc_good {A : Nat} {E : Int} {row : List Nat} (hA : A ≤ 24) (hE : 0 ≤ E ∧ E ≤ 60000) (hr : row.length = 16) : frR 2 (A : Int) E (ofN row) = (scT A E row, true) ∧ (scT A E row).size = 28 := by
  have hg : goodF 2 (A : Int) E (ofN row).size := ⟨⟨by omega, by omega, by omega⟩, hE, by rw [ofN_size]; omega⟩
  have e : frR 2 (A : Int) E (ofN row) = (ofN (frB (2 : Int).toNat (A : Int).toNat E.toNat (bs (ofN row))), true) := if_pos hg
  have e2 : scT A E row = ofN (frB (2 : Int).toNat (A : Int).toNat E.toNat (bs (ofN row))) := by unfold scT; rw [e]
  rw [e2]
  refine ⟨e, ?_⟩
  rw [ofN_size, frB_length (by rw [bs_length, ofN_size]; omega)]
theorem rd_nil' (w : World) : Rd w (.slice none 0 0) [] := ⟨none, 0, rfl, Nat.le_refl _, ⟨Nat.zero_le _, fun _ => rfl⟩, .inl rfl⟩
/-- A row of numbers, one of them. -/
theorem Rd.nth {w : World} {a : Option Addr} {n cap : Nat} {xs : List Int} (h : Rd w (.slice a n cap) xs) (k : Nat) (hk : k < xs.length) : ∃ b off, a = some ⟨b, off, none⟩ ∧ w.cell? ⟨b, off + k, none⟩ = some (.int .i64 (xs.getD k 0)) := by
  obtain ⟨a', cap', e, h1, h2, h3⟩ := h
  simp only [Value.slice.injEq] at e
  obtain ⟨rfl, _, rfl⟩ := e
  rcases h3 with h3 | ⟨b, off, rfl, hlt, hc⟩
  · subst h3; simp at hk
  · exact ⟨b, off, rfl, hc k hk⟩

set_option maxRecDepth 100000 in
set_option maxHeartbeats 1600000 in
theorem writePieces_calls (p h b : Value) (P H : List ByteArray) (B : List Bool) (A : Nat) (E : Int) (vm : Value) (m : List (List Nat)) (vk : Value) (ks : List Nat) (ok : Bool) (w : World) (gk : gkP P H B) (hA : A + 5 ≤ P.length)
    (hm : RdM w vm (m.map ci)) (ml : m.length = 5) (mr : ∀ i, i < 5 → (m.getD i []).length = 16 ∧ ∀ x ∈ m.getD i [], x < 256) (hk : Rd w vk (ci ks)) (kl : ks.length ≤ 5) (kr : ∀ j, j < ks.length → ks.getD j 0 < 5) (hok : ok = true ↔ wOk B A E ks ks.length)
    (hp : RdT w p P) (hh : RdT w h H) (hb : RdZ w b B) :
    Calls Tryz.prog 99 #[.agg #[p, h, b], .int .i64 (A : Int), .int .i64 E, vm, vk] w fun e w' => ∃ p' h' b', e = .returned (.tuple #[.agg #[p', h', b'], .bool ok]) ∧ DskV w' w.heap.size w'.heap.size p' h' b' (ifT ok P) (ifT ok (wrTo H A E m ks ks.length)) (ifT ok B) ∧ Below w.heap.size w w' := by
  have RP := hide hp
  have RH := hide hh
  have RB := hide hb
  have RM := hide hm
  have RK := hide hk
  have GK := hide gk
  have HOK := hide hok
  have MR := hide mr
  have KR := hide kr
  have ML := hide ml
  have h24 : P.length ≤ 24 := gk.1.2
  have C0 := hide (fun W h1 h2 h3 => copyDisk_calls p h b P H B W h1 h2 h3 ⟨by omega, h24⟩ (by rw [gk.2.1]; omega) (by rw [gk.2.2.1]; omega) gk.2.2.2.1 (by rw [gk.2.1]; exact gk.2.2.2.2.1))
  have S28 := hide gk.2.2.2.1
  have LH := hide gk.2.1
  have LB := hide gk.2.2.1
  have A0 : Hid (Hand w ((w.alloc (.cells #[p, h, b] 26)).alloc (.cells nil3 26)) [TBox (w.heap.size + 1) nil3 26, TBox w.heap.size #[p, h, b] 26]) := by
    show Hand _ _ _
    have := ((Hand.start w).box #[p, h, b] 26).box nil3 26
    simpa using this
  obtain ⟨ak, ck, hvk, _⟩ := hk
  rw [Gf.ci_length] at hvk
  subst hvk
  obtain ⟨am, cm, hvm, _⟩ := hm
  rw [List.length_map] at hvm
  subst hvm
  obtain ⟨mn, hmn⟩ : ∃ mn, mn = m.length := ⟨_, rfl⟩
  rw [← hmn] at RM ⊢
  have MN : Hid (mn = 5) := by show _ = _; rw [hmn, ml]
  clear gk hp hh hb hok mr kr hmn ml
  obtain ⟨c0, c1, c2⟩ := (A0.out.atBox 1 rfl).c3
  go_enter Tryz.func99, Tryz.ntmps99
  go_wp2_with fail
  refine (C0.out _ (RP.out.below A0.out.below) (RH.out.below A0.out.below) (RB.out.below A0.out.below)).mono ?_
  rintro e w1 ⟨p1, h1, b1, rfl, d1, q⟩
  obtain ⟨ap, cp, ah, ch, ab, cb, rfl, rfl, rfl⟩ := d1.sl
  have A1 := hide ((A0.out.add q (TDsk.st _ _ _ _ _ _) d1).box #[.slice ap P.length cp, .slice ah H.length ch, .slice ab B.length cb] 26)
  clear q d1 A0 c0 c1 c2
  obtain ⟨gn, hgn⟩ : ∃ gn, gn = w1.heap.size := ⟨_, rfl⟩
  rw [← hgn] at A1
  have HGN := hide hgn
  clear hgn
  obtain ⟨np, hnp⟩ : ∃ x, x = P.length := ⟨_, rfl⟩
  obtain ⟨nh, hnh⟩ : ∃ x, x = H.length := ⟨_, rfl⟩
  obtain ⟨nb, hnb⟩ : ∃ x, x = B.length := ⟨_, rfl⟩
  have hB5 : A + 5 ≤ np := by rw [hnp]; exact hA
  have hnp24 : np ≤ 24 := by rw [hnp]; exact h24
  rw [← hnp, ← hnh, ← hnb] at A1 ⊢
  have NP := hide hnp
  have NH : Hid (nh = np) := by show _ = _; rw [hnh, hnp]; exact LH.out
  have NB : Hid (nb = np) := by show _ = _; rw [hnb, hnp]; exact LB.out
  clear hnp hnh hnb hA h24
  go_wp2
  rw [← HGN.out]
  go_loopw [14, 19] (fun _ vi wr => ∃ k : Nat, k ≤ ks.length ∧ vi = .int .i64 k ∧ Hand w wr [TBox gn #[.slice ap np cp, .slice ah nh ch, .slice ab nb cb] 26, TDsk (.slice ap np cp) (.slice ah nh ch) (.slice ab nb cb) P (wrTo H A E m ks k) B, TBox (w.heap.size + 1) nil3 26, TBox w.heap.size #[p, h, b] 26] ∧ wOk B A E ks k) (fun _ vi _ => ks.length - (intOf vi).toNat)
  case atStart => exact ⟨0, Nat.zero_le _, rfl, A1.out, fun j hj => by omega⟩
  case round =>
    clear A1
    obtain ⟨k, hk, rfl, hH, hw⟩ := hrel
    have AH := hide hH
    have WO := hide hw
    clear hH hw
    by_cases hlt : k < ks.length
    · have hlt' : (k : Int) < (ks.length : Int) := by omega
      obtain ⟨kb, ko, hka, hkc⟩ := (RK.out.below AH.out.below).nth k (by rw [Gf.ci_length]; exact hlt)
      subst hka
      rw [Gf.ci_getD] at hkc
      have hz5 := KR.out k hlt
      have WS : Hid (wrTo H A E m ks (k + 1) = (wrTo H A E m ks k).set (A + ks.getD k 0) (scT (A + ks.getD k 0) E (m.getD (ks.getD k 0) []))) := rfl
      have WK : Hid (∀ hh : (0 ≤ E ∧ E ≤ 60000) ∧ B.getD (A + ks.getD k 0) false = false, wOk B A E ks (k + 1)) := fun hh j hj => by
        by_cases e : j = k
        · subst e; exact hh
        · exact WO.out j (by omega)
      have WN : Hid (ok = true → (0 ≤ E ∧ E ≤ 60000) ∧ B.getD (A + ks.getD k 0) false = false) := fun e => HOK.out.1 e k hlt
      generalize hzz : ks.getD k 0 = z at *
      clear hzz
      have LW := hide (wrTo_length H A E m ks k)
      generalize wrTo H A E m ks k = Hk at *
      have hzi : (z : Int) < (mn : Int) := by rw [MN.out]; omega
      obtain ⟨mb, mo, u, hma, _, hmc, hu⟩ := RM.out.rowAt z (by rw [List.length_map, ML.out]; exact hz5)
      have MC : Hid (∀ W', Below w.heap.size w W' → W'.cell? ⟨mb, mo + z, none⟩ = some u) := fun W' hb => (hb.cell (World.block_lt_of_cell? _ _ hmc)).trans hmc
      clear hmc
      subst hma
      obtain ⟨r1, r2⟩ := MR.out z hz5
      have hmg : (m.map ci).getD z [] = ci (m.getD z []) := by
        simp only [List.getD_eq_getElem?_getD]
        rw [List.getElem?_map, List.getElem?_eq_getElem (by rw [ML.out]; exact hz5)]
        rfl
      rw [hmg] at hu
      have U := hide hu
      obtain ⟨ua, uc, hu2, _⟩ := hu
      rw [Gf.ci_length, r1] at hu2
      subst hu2
      have C1 := hide (fun W v hv => bodyOf_calls v (m.getD z []) W hv r2 (by omega))
      have E5 : Hid (IntKind.i64.wrap ((A : Int) + (z : Int)) = ((A + z : Nat) : Int)) := by
        show _ = _
        simp [IntKind.wrap, IntKind.bits, IntKind.signed]
        omega
      have GF : Hid (goodF 2 ((A + z : Nat) : Int) E (ofN (m.getD z [])).size ↔ (0 ≤ E ∧ E ≤ 60000)) := by
        show _ ↔ _
        rw [ofN_size, r1]
        exact ⟨fun h => h.2.1, fun h => ⟨⟨by omega, by omega, by omega⟩, h, by omega⟩⟩
      have BL : Hid ((ofN (m.getD z [])).size ≤ maxLen) := by
        show _ ≤ _
        rw [ofN_size, r1]; unfold maxLen; omega
      clear hmg r1 r2
      obtain ⟨y, hy⟩ : ∃ y : Bool, y = true ↔ ((0 ≤ E ∧ E ≤ 60000) ∧ B.getD (A + z) false = false) := by
        by_cases h : (0 ≤ E ∧ E ≤ 60000) ∧ B.getD (A + z) false = false
        · exact ⟨true, by simp only [h, and_self]⟩
        · exact ⟨false, by simp only [h, Bool.false_eq_true]⟩
      have C2 : Hid (∀ lo hi W, DskV W lo hi (.slice ap np cp) (.slice ah nh ch) (.slice ab nb cb) P Hk B → hi ≤ W.heap.size →
          Calls Tryz.prog 146 #[.agg #[.slice ap np cp, .slice ah nh ch, .slice ab nb cb], .agg #[.int .i64 2, .int .i64 ((A + z : Nat) : Int), .int .i64 E, .string (ofN (m.getD z []))]] W fun e w' => e = .returned (.bool y) ∧ (y = true → DskV w' lo hi (.slice ap np cp) (.slice ah nh ch) (.slice ab nb cb) P (Hk.set (A + z) (scT (A + z) E (m.getD z []))) B) ∧ Chg lo hi W w') :=
        fun lo hi W dd q => holdFrame_calls (.slice ap np cp) (.slice ah nh ch) (.slice ab nb cb) P Hk B 2 E (A + z) (ofN (m.getD z [])) lo hi np y W dd q NP.out.symm (by rw [LW.out, LH.out, NP.out]) (by rw [LB.out, NP.out]) ⟨by omega, hnp24⟩ (by omega) BL.out (hy.trans ⟨fun h => ⟨GF.out.2 h.1, h.2⟩, fun h => ⟨GF.out.1 h.1, h.2⟩⟩)
      have HY := hide hy
      clear hy GF BL
      generalize scT (A + z) E (m.getD z []) = T at *
      generalize ofN (m.getD z []) = bo at *
      go_upto_region 5 with fail
      have AD := hide (AH.out.step (Below.refl wr.heap.size wr).drew)
      clear AH hkc
      have XS : Hid (∀ W' L, Hand w W' (TBox gn #[.slice ap np cp, .slice ah nh ch, .slice ab nb cb] 26 :: L) → (W'.cell? ⟨gn, 0, none⟩ = some (.slice ap np cp) ∧ W'.cell? ⟨gn, 1, none⟩ = some (.slice ah nh ch) ∧ W'.cell? ⟨gn, 2, none⟩ = some (.slice ab nb cb)) ∧ W'.cell? ⟨mb, mo + z, none⟩ = some (.slice ua 16 uc)) := fun W' L AA => ⟨(AA.atBox 0 rfl).c3, MC.out _ AA.below⟩
      go_region_held3 (fun w' => (w'.cell? ⟨gn, 0, none⟩ = some (.slice ap np cp) ∧ w'.cell? ⟨gn, 1, none⟩ = some (.slice ah nh ch) ∧ w'.cell? ⟨gn, 2, none⟩ = some (.slice ab nb cb)) ∧ w'.cell? ⟨mb, mo + z, none⟩ = some (.slice ua 16 uc)) (first | exact XS.out _ _ A4.out | exact XS.out _ _ A3.out | exact XS.out _ _ AD.out)
        ((first | (go_at_call 146; rw [E5.out]; refine (C2.out lo hi _ D3.out hw3).mono ?_; rintro e w4 ⟨rfl, sp1, sp2⟩; have A4 := hide (PUT.out w4 (fun lo hi W => y = true → DskV W lo hi (.slice ap np cp) (.slice ah nh ch) (.slice ab nb cb) P (Hk.set (A + z) T) B) (fun _ _ _ _ _ _ hh hc hd ey => (hh ey).chg hc hd) sp1 sp2); clear sp1 sp2) | (go_at_call 147; refine (C1.out _ _ (U.out.below AD.out.below)).mono ?_; rintro e w2 ⟨rfl, q⟩; have A3 := hide (AD.out.step q); clear q; obtain ⟨lo, hi, d3, lw, hw3, put⟩ := A3.out.open 1 rfl; have D3 : Hid (DskV w2 lo hi (.slice ap np cp) (.slice ah nh ch) (.slice ab nb cb) P Hk B) := d3; have PUT := hide put; clear d3 put)))
      cases y with
      | true =>
        have WKK := hide (WK.out (HY.out.1 rfl))
        obtain ⟨l4, h4, d4, _, _, put⟩ := A4.out.open 1 rfl
        have A5 := hide (put _ (TDsk (.slice ap np cp) (.slice ah nh ch) (.slice ab nb cb) P (Hk.set (A + z) T) B) (TDsk.st _ _ _ _ _ _) (d4 rfl) (Chg.refl _ _ _))
        clear d4 put PUT D3 C2 A3 A4 AD XS hw3 lw HY WK WN
        go_wp2
        go_roundw
        case rel =>
          refine ⟨k + 1, by omega, by go_num, ?_, WKK.out⟩
          rw [WS.out]
          exact A5.out
        case measure => simp [intOf]; omega
      | false =>
        have okf : ok = false := by
          cases ok with
          | false => rfl
          | true => have := HY.out.2 (WN.out rfl); simp at this
        subst okf
        clear PUT D3 C2 A3 AD XS hw3 lw HY WK WN
        obtain ⟨d0, d1, d2⟩ := (A4.out.atBox 2 rfl).c3
        have g0 := (A4.out.atBox 2 rfl).frozen 0
        have g1' := (A4.out.atBox 2 rfl).frozen 1
        have g2' := (A4.out.atBox 2 rfl).frozen 2
        have AZ := hide (A4.out.store3 2 rfl (.slice none 0 0) (.slice none 0 0) (.slice none 0 0))
        go_wp2
        exact bodyPost_ret (res_dsk2 rfl _ _ (w.heap.size + 1) _ _ _ (0, 0) rfl (AZ.out.atBox 2 rfl)) rfl ⟨_, _, _, rfl, DskV.nil _ _ _, AZ.out.below⟩
    · obtain rfl : k = ks.length := by omega
      have okt : ok = true := HOK.out.2 WO.out
      subst okt
      obtain ⟨c0, c1, c2⟩ := (AH.out.atBox 0 rfl).c3
      obtain ⟨d0, d1, d2⟩ := (AH.out.atBox 2 rfl).c3
      have g0 := (AH.out.atBox 2 rfl).frozen 0
      have g1' := (AH.out.atBox 2 rfl).frozen 1
      have g2' := (AH.out.atBox 2 rfl).frozen 2
      have AZ := hide (AH.out.store3 2 rfl (.slice ap np cp) (.slice ah nh ch) (.slice ab nb cb))
      go_wp2
      obtain ⟨lo, hi, d3, lw, hw3, _⟩ := AZ.out.open 1 rfl
      have D3 : DskV _ lo hi (.slice ap np cp) (.slice ah nh ch) (.slice ab nb cb) P (wrTo H A E m ks ks.length) B := d3
      exact bodyPost_ret (res_dsk2 rfl _ _ (w.heap.size + 1) _ _ _ (0, 0) rfl (AZ.out.atBox 2 rfl)) rfl ⟨_, _, _, rfl, D3.wider lw hw3, AZ.out.below⟩
end Go.Proofs.YtbgadbokejaomaaGreatDoor

namespace Go.Proofs.YtbgadbokejaomaaGreatDoor
open Go.RowKit
/-- One integer behind a row of the call's own, and where it lies then. -/
theorem wpList_append_int1 {w : World} {ops : Array Oper} {rest : List Oper} {o : Oper} {a : Act} {Q : Exit → Act → World → Prop} (hgd : o.guard = none) (s x : Operand)
    (ho : o.op = .call { callee := .builtin .append, args := #[s, x], argTypes := #[27, 27] })
    (base : Nat) (v : Value) (n : Nat) (xs : List Int) (z : Int) (hs : a.eval s = v) (hown : w.ownsRow base 3 1 v n (xs.map (Value.int .i64))) (gx : Nat) (hx : a.eval x = .slice (some ⟨gx, 0, none⟩) 1 1) (hc : w.cell? ⟨gx, 0, none⟩ = some (.int .i64 z))
    (hm : n ≤ 1000) (hbase : base ≤ w.heap.size)
    (h : ∀ g cap w', w'.ownsRow base 3 1 (.slice (some ⟨g, 0, none⟩) (n + 1) cap) (n + 1) ((xs ++ [z]).map (Value.int .i64)) → w.grownBy w' v.ownBlock → (v.ownBlock = some g ∨ g = w.heap.size) → g < w'.heap.size → wpList Tryz.prog ops Q rest (a.put o.dst (.slice (some ⟨g, 0, none⟩) (n + 1) cap)) w') : wpList Tryz.prog ops Q (o :: rest) a w := by
  obtain ⟨i0, hi, hz0, hz1, hz2⟩ := info_parts infoInt
  refine wpList_append_lies (w := w) hgd s x _ ho base _ i0 (.int .i64 0) 1 8 Tryz.underlying27 hi hz0 hz1 hz2 rfl (by decide) v n _ hs hown ⟨gx, 0, none⟩ 1 1 ([z].map (Value.int .i64)) hx (by simp) ?_ (ints_oneCell _ _) (by decide) (by unfold maxLen; omega) (by omega) hbase _ rfl ?_
  · intro j u hu
    have : j = 0 := by
      have := (List.getElem?_eq_some_iff.1 hu).1
      simpa using this
    subst this
    simp at hu
    subst hu
    simpa [Addr.add] using hc
  · intro g cap w' h1 h2 h3 h4
    rw [← List.map_append] at h1
    exact h g cap w' h1 h2 h3 h4
end Go.Proofs.YtbgadbokejaomaaGreatDoor
