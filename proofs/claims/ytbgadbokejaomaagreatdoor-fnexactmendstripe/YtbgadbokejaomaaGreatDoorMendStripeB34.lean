/-
  A frame is written to its sector, and a disk synced, in the disk's own lists: the program's holdFrame, syncDisk. Each contract says what it asks. Pieces written: the program's writePieces. The contract says what it asks. A step done on a disk of the call's own, kind by kind: the model's l7Step, call by call. Each contract says what it asks. A step done on a disk of the call's own: the model's l7Step as a whole. The contract says what it asks. WriteStripe: the program's and its model's, at every disk, numbers and text. The program's table of rests must hold its seven numbers where the program's own functions are called. A piece put into its sector by the model: l8Put. The contract says what it asks. WriteStripe of the model, at every disk, numbers and text. No condition but that a number is one of 64 bits. A stripe mended: which sectors are written again, what is held then, and the program's withoutBad.
-/
import Derived.Test.YtbgadbokejaomaaGreatDoorMendStripeB3
import Derived.Test.YtbgadbokejaomaaGreatDoorMendStripeB11
import Derived.Test.YtbgadbokejaomaaGreatDoorMendStripeB33
import Derived.Test.YtbgadbokejaomaaGreatDoorMendStripeB19
import Derived.Deep.RegionHeld3
import Derived.Test.YtbgadbokejaomaaGreatDoorMendStripeB12
import Derived.Test.YtbgadbokejaomaaGreatDoorMendStripeB10
import Derived.Test.YtbgadbokejaomaaGreatDoorMendStripeB31
namespace Go.Proofs.YtbgadbokejaomaaGreatDoor
open Go.RowKit
set_option linter.unusedVariables false
set_option linter.unusedSimpArgs false

theorem rd_nilJ (w : World) : Rd w (.slice none 0 0) [] := ⟨none, 0, rfl, Nat.le_refl _, ⟨Nat.zero_le _, fun _ => rfl⟩, .inl rfl⟩
theorem frR_yes {K A E : Int} {b : ByteArray} (h : goodF K A E b.size) : (frR K A E b).2 = true ∧ (frR K A E b).1.size = 28 := by
  have e : frR K A E b = (ofN (frB K.toNat A.toNat E.toNat (bs b)), true) := if_pos h
  rw [e]
  refine ⟨rfl, ?_⟩
  rw [ofN_size, frB_length (by rw [bs_length]; exact h.2.2)]
theorem frR_no {K A E : Int} {b : ByteArray} (h : ¬ goodF K A E b.size) : frR K A E b = (⟨#[]⟩, false) := if_neg h
set_option maxRecDepth 100000 in
set_option maxHeartbeats 1600000 in
theorem holdFrame_calls (p h b : Value) (P H : List ByteArray) (B : List Bool) (K E : Int) (k : Nat) (T : ByteArray) (lo hi n : Nat) (ok : Bool) (w : World) (d : DskV w lo hi p h b P H B) (hhi : hi ≤ w.heap.size) (hP : P.length = n) (hH : H.length = n) (hB : B.length = n) (hn : 0 < n ∧ n ≤ 24) (hk : k < n) (hT : T.size ≤ maxLen)
    (hok : ok = true ↔ (goodF K (k : Int) E T.size ∧ B.getD k false = false)) :
    Calls Tryz.prog 146 #[.agg #[p, h, b], .agg #[.int .i64 K, .int .i64 (k : Int), .int .i64 E, .string T]] w fun e w' => e = .returned (.bool ok) ∧ (ok = true → DskV w' lo hi p h b P (H.set k (frR K (k : Int) E T).1) B) ∧ Chg lo hi w w' := by
  obtain ⟨ap, cp, ah, ch, ab, cb, rfl, rfl, rfl⟩ := d.sl
  have A0 := hide (Hand.twoR w #[.slice ap P.length cp, .slice ah H.length ch, .slice ab B.length cb] (frC K (k : Int) E T) 26 160)
  have FB := hide (fun W => frameBytes_calls K (k : Int) E T W hT)
  have D := hide d
  have HP := hide hP
  have HH := hide hH
  have HB := hide hB
  by_cases hg : goodF K (k : Int) E T.size
  · obtain ⟨f1, f2⟩ := frR_yes hg
    rw [f1] at FB
    have DS := hide (fun W dd q => doStep_1 (.slice ap P.length cp) (.slice ah H.length ch) (.slice ab B.length cb) (.slice none 0 0) P H B [] lo hi n k (frR K (k : Int) E T).1 ok W dd q HP.out HH.out HB.out hn (fun w' _ => rd_nilJ w') hk (by omega) (hok.trans ⟨fun h => ⟨h.2, by omega, by omega⟩, fun h => ⟨hg, h.1⟩⟩))
    generalize (frR K (k : Int) E T).1 = s at FB DS ⊢
    obtain ⟨x0, x1, x2⟩ := (A0.out.atBox 1 rfl).c3
    obtain ⟨z0, z1, z2, z3⟩ := (A0.out.atBox 0 rfl).c4
    clear d hP hH hB hok hg f1 f2 hT
    go_enter Tryz.func146, Tryz.ntmps146
    go_wp2_with fail
    refine (FB.out _).mono ?_
    rintro e w1 ⟨rfl, q⟩
    have A1 := hide (A0.out.step q)
    have BS : hi ≤ w1.heap.size := Nat.le_trans hhi A1.out.below.size
    clear q A0 x0 x1 x2 z0 z1 z2 z3
    obtain ⟨x0, x1, x2⟩ := (A1.out.atBox 1 rfl).c3
    obtain ⟨z0, z1, z2, z3⟩ := (A1.out.atBox 0 rfl).c4
    go_wp2_with (go_at_call 84; refine (DS.out _ (D.out.below A1.out.below) BS).mono ?_; rintro e w2 ⟨rfl, d2, c2⟩)
    go_ret
    exact ⟨by simp, d2, (Chg.ofBelow A1.out.below).trans c2⟩
  · rw [frR_no hg] at FB
    obtain rfl : ok = false := by cases ok with | false => rfl | true => exact absurd (hok.1 rfl).1 hg
    obtain ⟨x0, x1, x2⟩ := (A0.out.atBox 1 rfl).c3
    obtain ⟨z0, z1, z2, z3⟩ := (A0.out.atBox 0 rfl).c4
    clear d hP hH hB hok hg hT
    go_enter Tryz.func146, Tryz.ntmps146
    go_wp2_with fail
    refine (FB.out _).mono ?_
    rintro e w1 ⟨rfl, q⟩
    have A1 := hide (A0.out.step q)
    clear q A0 x0 x1 x2 z0 z1 z2 z3
    go_wp2
    go_ret
    exact ⟨rfl, fun h => by simp at h, Chg.ofBelow A1.out.below⟩

end Go.Proofs.YtbgadbokejaomaaGreatDoor

namespace Go.Proofs.YtbgadbokejaomaaGreatDoor
open Go.RowKit
open Gf (ci nat)
set_option linter.unusedVariables false

/-- A piece's sector. -/
def scT (A : Nat) (E : Int) (row : List Nat) : ByteArray := (frR 2 (A : Int) E (ofN row)).1
/-- What is held behind the first writes. -/
def wrTo (H : List ByteArray) (A : Nat) (E : Int) (m : List (List Nat)) (ks : List Nat) : Nat → List ByteArray
  | 0 => H
  | j + 1 => (wrTo H A E m ks j).set (A + ks.getD j 0) (scT (A + ks.getD j 0) E (m.getD (ks.getD j 0) []))
def wOk (B : List Bool) (A : Nat) (E : Int) (ks : List Nat) (n : Nat) : Prop := ∀ j, j < n → (0 ≤ E ∧ E ≤ 60000) ∧ B.getD (A + ks.getD j 0) false = false
def ifT {α : Type} (ok : Bool) (l : List α) : List α := if ok = true then l else []
theorem wrTo_length (H : List ByteArray) (A : Nat) (E : Int) (m : List (List Nat)) (ks : List Nat) : ∀ j, (wrTo H A E m ks j).length = H.length
  | 0 => rfl
  | j + 1 => by rw [wrTo, List.length_set, wrTo_length H A E m ks j]
theorem sc_good {A : Nat} {E : Int} {row : List Nat} (hA : A ≤ 24) (hE : 0 ≤ E ∧ E ≤ 60000) (hr : row.length = 16) : frR 2 (A : Int) E (ofN row) = (scT A E row, true) ∧ (scT A E row).size = 28 := by
  have hg : goodF 2 (A : Int) E (ofN row).size := ⟨⟨by omega, by omega, by omega⟩, hE, by rw [ofN_size]; omega⟩
  have e : frR 2 (A : Int) E (ofN row) = (ofN (frB (2 : Int).toNat (A : Int).toNat E.toNat (bs (ofN row))), true) := if_pos hg
  have e2 : scT A E row = ofN (frB (2 : Int).toNat (A : Int).toNat E.toNat (bs (ofN row))) := by unfold scT; rw [e]
  rw [e2]
  refine ⟨e, ?_⟩
  rw [ofN_size, frB_length (by rw [bs_length, ofN_size]; omega)]
theorem rd_nil' (w : World) : Rd w (.slice none 0 0) [] := ⟨none, 0, rfl, Nat.le_refl _, ⟨Nat.zero_le _, fun _ => rfl⟩, .inl rfl⟩
/-- A row of numbers, one of them. -/
theorem Rd.nth {w : World} {a : Option Addr} {n cap : Nat} {xs : List Int} (h : Rd w (.slice a n cap) xs) (k : Nat) (hk : k < xs.length) : ∃ b off, a = some ⟨b, off, none⟩ ∧ w.cell? ⟨b, off + k, none⟩ = some (.int .i64 (xs.getD k 0)) := by
  obtain ⟨a', cap', e, h1, h2, h3⟩ := h
  simp only [Value.slice.injEq] at e
  obtain ⟨rfl, _, rfl⟩ := e
  rcases h3 with h3 | ⟨b, off, rfl, hlt, hc⟩
  · subst h3; simp at hk
  · exact ⟨b, off, rfl, hc k hk⟩

set_option maxRecDepth 100000 in
set_option maxHeartbeats 1600000 in
theorem writePieces_calls (p h b : Value) (P H : List ByteArray) (B : List Bool) (A : Nat) (E : Int) (vm : Value) (m : List (List Nat)) (vk : Value) (ks : List Nat) (ok : Bool) (w : World) (gk : gkP P H B) (hA : A + 5 ≤ P.length)
    (hm : RdM w vm (m.map ci)) (ml : m.length = 5) (mr : ∀ i, i < 5 → (m.getD i []).length = 16 ∧ ∀ x ∈ m.getD i [], x < 256) (hk : Rd w vk (ci ks)) (kl : ks.length ≤ 5) (kr : ∀ j, j < ks.length → ks.getD j 0 < 5) (hok : ok = true ↔ wOk B A E ks ks.length)
    (hp : RdT w p P) (hh : RdT w h H) (hb : RdZ w b B) :
    Calls Tryz.prog 99 #[.agg #[p, h, b], .int .i64 (A : Int), .int .i64 E, vm, vk] w fun e w' => ∃ p' h' b', e = .returned (.tuple #[.agg #[p', h', b'], .bool ok]) ∧ DskV w' w.heap.size w'.heap.size p' h' b' (ifT ok P) (ifT ok (wrTo H A E m ks ks.length)) (ifT ok B) ∧ Below w.heap.size w w' := by
  have RP := hide hp
  have RH := hide hh
  have RB := hide hb
  have RM := hide hm
  have RK := hide hk
  have GK := hide gk
  have HOK := hide hok
  have MR := hide mr
  have KR := hide kr
  have ML := hide ml
  have h24 : P.length ≤ 24 := gk.1.2
  have C0 := hide (fun W h1 h2 h3 => copyDisk_calls p h b P H B W h1 h2 h3 ⟨by omega, h24⟩ (by rw [gk.2.1]; omega) (by rw [gk.2.2.1]; omega) gk.2.2.2.1 (by rw [gk.2.1]; exact gk.2.2.2.2.1))
  have S28 := hide gk.2.2.2.1
  have LH := hide gk.2.1
  have LB := hide gk.2.2.1
  have A0 : Hid (Hand w ((w.alloc (.cells #[p, h, b] 26)).alloc (.cells nil3 26)) [TBox (w.heap.size + 1) nil3 26, TBox w.heap.size #[p, h, b] 26]) := by
    show Hand _ _ _
    have := ((Hand.start w).box #[p, h, b] 26).box nil3 26
    simpa using this
  obtain ⟨ak, ck, hvk, _⟩ := hk
  rw [Gf.ci_length] at hvk
  subst hvk
  obtain ⟨am, cm, hvm, _⟩ := hm
  rw [List.length_map] at hvm
  subst hvm
  obtain ⟨mn, hmn⟩ : ∃ mn, mn = m.length := ⟨_, rfl⟩
  rw [← hmn] at RM ⊢
  have MN : Hid (mn = 5) := by show _ = _; rw [hmn, ml]
  clear gk hp hh hb hok mr kr hmn ml
  obtain ⟨c0, c1, c2⟩ := (A0.out.atBox 1 rfl).c3
  go_enter Tryz.func99, Tryz.ntmps99
  go_wp2_with fail
  refine (C0.out _ (RP.out.below A0.out.below) (RH.out.below A0.out.below) (RB.out.below A0.out.below)).mono ?_
  rintro e w1 ⟨p1, h1, b1, rfl, d1, q⟩
  obtain ⟨ap, cp, ah, ch, ab, cb, rfl, rfl, rfl⟩ := d1.sl
  have A1 := hide ((A0.out.add q (TDsk.st _ _ _ _ _ _) d1).box #[.slice ap P.length cp, .slice ah H.length ch, .slice ab B.length cb] 26)
  clear q d1 A0 c0 c1 c2
  obtain ⟨gn, hgn⟩ : ∃ gn, gn = w1.heap.size := ⟨_, rfl⟩
  rw [← hgn] at A1
  have HGN := hide hgn
  clear hgn
  obtain ⟨np, hnp⟩ : ∃ x, x = P.length := ⟨_, rfl⟩
  obtain ⟨nh, hnh⟩ : ∃ x, x = H.length := ⟨_, rfl⟩
  obtain ⟨nb, hnb⟩ : ∃ x, x = B.length := ⟨_, rfl⟩
  have hB5 : A + 5 ≤ np := by rw [hnp]; exact hA
  have hnp24 : np ≤ 24 := by rw [hnp]; exact h24
  rw [← hnp, ← hnh, ← hnb] at A1 ⊢
  have NP := hide hnp
  have NH : Hid (nh = np) := by show _ = _; rw [hnh, hnp]; exact LH.out
  have NB : Hid (nb = np) := by show _ = _; rw [hnb, hnp]; exact LB.out
  clear hnp hnh hnb hA h24
  go_wp2
  rw [← HGN.out]
  go_loopw [14, 19] (fun _ vi wr => ∃ k : Nat, k ≤ ks.length ∧ vi = .int .i64 k ∧ Hand w wr [TBox gn #[.slice ap np cp, .slice ah nh ch, .slice ab nb cb] 26, TDsk (.slice ap np cp) (.slice ah nh ch) (.slice ab nb cb) P (wrTo H A E m ks k) B, TBox (w.heap.size + 1) nil3 26, TBox w.heap.size #[p, h, b] 26] ∧ wOk B A E ks k) (fun _ vi _ => ks.length - (intOf vi).toNat)
  case atStart => exact ⟨0, Nat.zero_le _, rfl, A1.out, fun j hj => by omega⟩
  case round =>
    clear A1
    obtain ⟨k, hk, rfl, hH, hw⟩ := hrel
    have AH := hide hH
    have WO := hide hw
    clear hH hw
    by_cases hlt : k < ks.length
    · have hlt' : (k : Int) < (ks.length : Int) := by omega
      obtain ⟨kb, ko, hka, hkc⟩ := (RK.out.below AH.out.below).nth k (by rw [Gf.ci_length]; exact hlt)
      subst hka
      rw [Gf.ci_getD] at hkc
      have hz5 := KR.out k hlt
      have WS : Hid (wrTo H A E m ks (k + 1) = (wrTo H A E m ks k).set (A + ks.getD k 0) (scT (A + ks.getD k 0) E (m.getD (ks.getD k 0) []))) := rfl
      have WK : Hid (∀ hh : (0 ≤ E ∧ E ≤ 60000) ∧ B.getD (A + ks.getD k 0) false = false, wOk B A E ks (k + 1)) := fun hh j hj => by
        by_cases e : j = k
        · subst e; exact hh
        · exact WO.out j (by omega)
      have WN : Hid (ok = true → (0 ≤ E ∧ E ≤ 60000) ∧ B.getD (A + ks.getD k 0) false = false) := fun e => HOK.out.1 e k hlt
      generalize hzz : ks.getD k 0 = z at *
      clear hzz
      have LW := hide (wrTo_length H A E m ks k)
      generalize wrTo H A E m ks k = Hk at *
      have hzi : (z : Int) < (mn : Int) := by rw [MN.out]; omega
      obtain ⟨mb, mo, u, hma, _, hmc, hu⟩ := RM.out.rowAt z (by rw [List.length_map, ML.out]; exact hz5)
      have MC : Hid (∀ W', Below w.heap.size w W' → W'.cell? ⟨mb, mo + z, none⟩ = some u) := fun W' hb => (hb.cell (World.block_lt_of_cell? _ _ hmc)).trans hmc
      clear hmc
      subst hma
      obtain ⟨r1, r2⟩ := MR.out z hz5
      have hmg : (m.map ci).getD z [] = ci (m.getD z []) := by
        simp only [List.getD_eq_getElem?_getD]
        rw [List.getElem?_map, List.getElem?_eq_getElem (by rw [ML.out]; exact hz5)]
        rfl
      rw [hmg] at hu
      have U := hide hu
      obtain ⟨ua, uc, hu2, _⟩ := hu
      rw [Gf.ci_length, r1] at hu2
      subst hu2
      have C1 := hide (fun W v hv => bodyOf_calls v (m.getD z []) W hv r2 (by omega))
      have E5 : Hid (IntKind.i64.wrap ((A : Int) + (z : Int)) = ((A + z : Nat) : Int)) := by
        show _ = _
        simp [IntKind.wrap, IntKind.bits, IntKind.signed]
        omega
      have GF : Hid (goodF 2 ((A + z : Nat) : Int) E (ofN (m.getD z [])).size ↔ (0 ≤ E ∧ E ≤ 60000)) := by
        show _ ↔ _
        rw [ofN_size, r1]
        exact ⟨fun h => h.2.1, fun h => ⟨⟨by omega, by omega, by omega⟩, h, by omega⟩⟩
      have BL : Hid ((ofN (m.getD z [])).size ≤ maxLen) := by
        show _ ≤ _
        rw [ofN_size, r1]; unfold maxLen; omega
      clear hmg r1 r2
      obtain ⟨y, hy⟩ : ∃ y : Bool, y = true ↔ ((0 ≤ E ∧ E ≤ 60000) ∧ B.getD (A + z) false = false) := by
        by_cases h : (0 ≤ E ∧ E ≤ 60000) ∧ B.getD (A + z) false = false
        · exact ⟨true, by simp only [h, and_self]⟩
        · exact ⟨false, by simp only [h, Bool.false_eq_true]⟩
      have C2 : Hid (∀ lo hi W, DskV W lo hi (.slice ap np cp) (.slice ah nh ch) (.slice ab nb cb) P Hk B → hi ≤ W.heap.size →
          Calls Tryz.prog 146 #[.agg #[.slice ap np cp, .slice ah nh ch, .slice ab nb cb], .agg #[.int .i64 2, .int .i64 ((A + z : Nat) : Int), .int .i64 E, .string (ofN (m.getD z []))]] W fun e w' => e = .returned (.bool y) ∧ (y = true → DskV w' lo hi (.slice ap np cp) (.slice ah nh ch) (.slice ab nb cb) P (Hk.set (A + z) (scT (A + z) E (m.getD z []))) B) ∧ Chg lo hi W w') :=
        fun lo hi W dd q => holdFrame_calls (.slice ap np cp) (.slice ah nh ch) (.slice ab nb cb) P Hk B 2 E (A + z) (ofN (m.getD z [])) lo hi np y W dd q NP.out.symm (by rw [LW.out, LH.out, NP.out]) (by rw [LB.out, NP.out]) ⟨by omega, hnp24⟩ (by omega) BL.out (hy.trans ⟨fun h => ⟨GF.out.2 h.1, h.2⟩, fun h => ⟨GF.out.1 h.1, h.2⟩⟩)
      have HY := hide hy
      clear hy GF BL
      generalize scT (A + z) E (m.getD z []) = T at *
      generalize ofN (m.getD z []) = bo at *
      go_upto_region 5 with fail
      have AD := hide (AH.out.step (Below.refl wr.heap.size wr).drew)
      clear AH hkc
      have XS : Hid (∀ W' L, Hand w W' (TBox gn #[.slice ap np cp, .slice ah nh ch, .slice ab nb cb] 26 :: L) → (W'.cell? ⟨gn, 0, none⟩ = some (.slice ap np cp) ∧ W'.cell? ⟨gn, 1, none⟩ = some (.slice ah nh ch) ∧ W'.cell? ⟨gn, 2, none⟩ = some (.slice ab nb cb)) ∧ W'.cell? ⟨mb, mo + z, none⟩ = some (.slice ua 16 uc)) := fun W' L AA => ⟨(AA.atBox 0 rfl).c3, MC.out _ AA.below⟩
      go_region_held3 (fun w' => (w'.cell? ⟨gn, 0, none⟩ = some (.slice ap np cp) ∧ w'.cell? ⟨gn, 1, none⟩ = some (.slice ah nh ch) ∧ w'.cell? ⟨gn, 2, none⟩ = some (.slice ab nb cb)) ∧ w'.cell? ⟨mb, mo + z, none⟩ = some (.slice ua 16 uc)) (first | exact XS.out _ _ A4.out | exact XS.out _ _ A3.out | exact XS.out _ _ AD.out)
        ((first | (go_at_call 146; rw [E5.out]; refine (C2.out lo hi _ D3.out hw3).mono ?_; rintro e w4 ⟨rfl, sp1, sp2⟩; have A4 := hide (PUT.out w4 (fun lo hi W => y = true → DskV W lo hi (.slice ap np cp) (.slice ah nh ch) (.slice ab nb cb) P (Hk.set (A + z) T) B) (fun _ _ _ _ _ _ hh hc hd ey => (hh ey).chg hc hd) sp1 sp2); clear sp1 sp2) | (go_at_call 147; refine (C1.out _ _ (U.out.below AD.out.below)).mono ?_; rintro e w2 ⟨rfl, q⟩; have A3 := hide (AD.out.step q); clear q; obtain ⟨lo, hi, d3, lw, hw3, put⟩ := A3.out.open 1 rfl; have D3 : Hid (DskV w2 lo hi (.slice ap np cp) (.slice ah nh ch) (.slice ab nb cb) P Hk B) := d3; have PUT := hide put; clear d3 put)))
      cases y with
      | true =>
        have WKK := hide (WK.out (HY.out.1 rfl))
        obtain ⟨l4, h4, d4, _, _, put⟩ := A4.out.open 1 rfl
        have A5 := hide (put _ (TDsk (.slice ap np cp) (.slice ah nh ch) (.slice ab nb cb) P (Hk.set (A + z) T) B) (TDsk.st _ _ _ _ _ _) (d4 rfl) (Chg.refl _ _ _))
        clear d4 put PUT D3 C2 A3 A4 AD XS hw3 lw HY WK WN
        go_wp2
        go_roundw
        case rel =>
          refine ⟨k + 1, by omega, by go_num, ?_, WKK.out⟩
          rw [WS.out]
          exact A5.out
        case measure => simp [intOf]; omega
      | false =>
        have okf : ok = false := by
          cases ok with
          | false => rfl
          | true => have := HY.out.2 (WN.out rfl); simp at this
        subst okf
        clear PUT D3 C2 A3 AD XS hw3 lw HY WK WN
        obtain ⟨d0, d1, d2⟩ := (A4.out.atBox 2 rfl).c3
        have g0 := (A4.out.atBox 2 rfl).frozen 0
        have g1' := (A4.out.atBox 2 rfl).frozen 1
        have g2' := (A4.out.atBox 2 rfl).frozen 2
        have AZ := hide (A4.out.store3 2 rfl (.slice none 0 0) (.slice none 0 0) (.slice none 0 0))
        go_wp2
        exact bodyPost_ret (res_dsk2 rfl _ _ (w.heap.size + 1) _ _ _ (0, 0) rfl (AZ.out.atBox 2 rfl)) rfl ⟨_, _, _, rfl, DskV.nil _ _ _, AZ.out.below⟩
    · obtain rfl : k = ks.length := by omega
      have okt : ok = true := HOK.out.2 WO.out
      subst okt
      obtain ⟨c0, c1, c2⟩ := (AH.out.atBox 0 rfl).c3
      obtain ⟨d0, d1, d2⟩ := (AH.out.atBox 2 rfl).c3
      have g0 := (AH.out.atBox 2 rfl).frozen 0
      have g1' := (AH.out.atBox 2 rfl).frozen 1
      have g2' := (AH.out.atBox 2 rfl).frozen 2
      have AZ := hide (AH.out.store3 2 rfl (.slice ap np cp) (.slice ah nh ch) (.slice ab nb cb))
      go_wp2
      obtain ⟨lo, hi, d3, lw, hw3, _⟩ := AZ.out.open 1 rfl
      have D3 : DskV _ lo hi (.slice ap np cp) (.slice ah nh ch) (.slice ab nb cb) P (wrTo H A E m ks ks.length) B := d3
      exact bodyPost_ret (res_dsk2 rfl _ _ (w.heap.size + 1) _ _ _ (0, 0) rfl (AZ.out.atBox 2 rfl)) rfl ⟨_, _, _, rfl, D3.wider lw hw3, AZ.out.below⟩
end Go.Proofs.YtbgadbokejaomaaGreatDoor

namespace Go.Proofs.YtbgadbokejaomaaGreatDoor
open Go.RowKit
set_option linter.unusedVariables false
theorem s_pro (w : World) (lo hi : Nat) (D X : Array Value) {v p h b : Value} {ks : List Int} {P H : List ByteArray} {B : List Bool} (kv : ∀ w', Chg lo hi w w' → Rd w' v ks) (d : DskV w lo hi p h b P H B) :
    Hid (BoxAt (((w.alloc (.cells D 26)).alloc (.cells X 105)).alloc (.cells D 26)) (w.heap.size + 1 + 1) D 26) ∧ Hid (Chg lo hi w (((w.alloc (.cells D 26)).alloc (.cells X 105)).alloc (.cells D 26))) ∧
    ∃ W0, Hid (((w.alloc (.cells D 26)).alloc (.cells X 105)).alloc (.cells nil3 26) = W0) ∧ Hid (Chg lo hi w W0) ∧ Hid (BoxAt W0 w.heap.size D 26) ∧ Hid (BoxAt W0 (w.heap.size + 1) X 105) ∧ Hid (BoxAt W0 (w.heap.size + 1 + 1) nil3 26) ∧
      Hid (DskV W0 lo hi p h b P H B) ∧ Hid (∀ w', Chg lo hi W0 w' → Rd w' v ks) ∧ w.heap.size + 1 + 1 < W0.heap.size := by
  have a := Hand.three w D X D 26 105 26
  have c := Hand.three w D X nil3 26 105 26
  exact ⟨hide (a.atBox 0 rfl), hide (Chg.ofBelow a.below), _, hide rfl, hide (Chg.ofBelow c.below), hide (c.atBox 2 rfl), hide (c.atBox 1 rfl), hide (c.atBox 0 rfl), hide (d.below c.below), hide (fun w' hc => kv _ ((Chg.ofBelow c.below).trans hc)), (c.atBox 0 rfl).lt⟩

set_option linter.unusedSimpArgs false in
set_option maxRecDepth 100000 in
set_option maxHeartbeats 1600000 in
theorem s_1c (p h b vk : Value) (P H : List ByteArray) (B : List Bool) (lo hi n : Nat) (k : Nat) (T : ByteArray) (w : World) (d : DskV w lo hi p h b P H B) (hhi : hi ≤ w.heap.size) (hP : P.length = n) (hH : H.length = n) (hB : B.length = n) (hn : 0 < n ∧ n ≤ 24) (kv : ∀ w', Chg lo hi w w' → Rd w' vk ([] : List Int)) (hk : k < n) (hBk : B.getD k false = false) (h1 : 1 ≤ T.size) (h2 : T.size ≤ 28) :
    Calls Tryz.prog 89 #[.agg #[p, h, b], .agg #[.int .i64 1, .int .i64 (k : Int), .string T, vk]] w fun e w' => e = .returned (.tuple #[.agg #[p, h, b], .bool true]) ∧ (true = true → DskV w' lo hi p h b P (H.set k T) B) ∧ Chg lo hi w w' := by
  obtain ⟨gp, cp, gh, ch, gb, cb, rfl, rfl, rfl, n1, n2, n3, ⟨t1, t2, t3⟩, _⟩ := d.blocks hP hH hB hn.1
  have KV := hide kv
  obtain ⟨av, cv, ev', mv, _⟩ := (kv w (Chg.refl _ _ _)).sl
  have ev : vk = .slice av 0 cv := ev'
  clear ev'
  subst ev
  obtain ⟨F0, CF0, W0, E0, C0, X0, Y0, Z0, D0, KV0, s0⟩ := s_pro w lo hi #[.slice (some ⟨gp, 0, none⟩) n cp, .slice (some ⟨gh, 0, none⟩) n ch, .slice (some ⟨gb, 0, none⟩) n cb] #[.int .i64 1, .int .i64 (k : Int), .string T, .slice av 0 cv] kv d
  have LP := hide hP
  have LH := hide hH
  have LB := hide hB
  clear kv d hP hH hB
  have hk0 : (0 : Int) ≤ (k : Int) := by omega
  have hk' : (k : Int) < (n : Int) := by omega
  go_enter Tryz.func89, Tryz.ntmps89
  go_wp2_with fail
  rw [E0.out]
  refine (l7There_yes _ _ _ _ _ _ _ hk0 hk' (by omega)).mono ?_
  rintro e u1 ⟨rfl, q⟩
  have X1 := hide (X0.out.below q)
  have Y1 := hide (Y0.out.below q)
  have Z1 := hide (Z0.out.below q)
  have D1 := hide (D0.out.below q)
  have C1 := hide (C0.out.trans (Chg.ofBelow q))
  have s1 := q.size
  clear q X0 Y0 Z0 D0 C0 KV0 E0
  obtain ⟨hb1, hb2⟩ := D1.out.cellB LB.out k hk
  rw [hBk] at hb1
  obtain ⟨y0, y1, y2, y3⟩ := Y1.out.c4
  obtain ⟨c0, c1, c2⟩ := X1.out.c3
  go_wp2_with fail
  refine (l1In_yes _ _ _ _ (by omega) (by omega)).mono ?_
  rintro e u ⟨rfl, rfl⟩
  clear hb1 hb2
  obtain ⟨q1a, q1b⟩ := (D1.out).cellH LH.out k hk
  obtain ⟨dp1, cp1⟩ := (D1.out).putH LH.out k T (by unfold maxLen; omega)
  obtain ⟨x1a, x1b, x1c⟩ := (X1.out.chg (cp1) (.inr hhi)).c3
  obtain ⟨v1a, v1b, v1c, v1d⟩ := (Y1.out.chg (cp1) (.inr (by omega))).c4
  have X9 := hide (X1.out.chg (cp1) (.inr hhi))
  have Y9 := hide (Y1.out.chg (cp1) (.inr (by omega)))
  have Z9 := hide (Z1.out.chg (cp1) (.inr (by omega)))
  have D9 := hide dp1
  have C9 := hide (C1.out.trans (cp1))
  have s9 := (cp1).size
  clear dp1 cp1
  clear c0 c1 c2
  obtain ⟨c0, c1, c2⟩ := X9.out.c3
  obtain ⟨r0, r1, r2⟩ := Z9.out.c3
  have f0 := Z9.out.frozen 0
  have f1 := Z9.out.frozen 1
  have f2 := Z9.out.frozen 2
  have XF := hide (Z9.out.store3 (.slice (some ⟨gp, 0, none⟩) n cp) (.slice (some ⟨gh, 0, none⟩) n ch) (.slice (some ⟨gb, 0, none⟩) n cb))
  have c6 := Chg.store3 (lo := w.heap.size + 1 + 1) (hi := w.heap.size + 1 + 1 + 1) (u1.setCell ⟨gh, k, none⟩ (.string T)) (w.heap.size + 1 + 1) (.slice (some ⟨gp, 0, none⟩) n cp) (.slice (some ⟨gh, 0, none⟩) n ch) (.slice (some ⟨gb, 0, none⟩) n cb) (Nat.le_refl _) (by omega)
  have CC := hide (chg_new C9.out c6 (by omega))
  have DD := hide (D9.out.chg c6 (.inl (by omega)))
  clear c6
  obtain ⟨c0, c1, c2⟩ := X1.out.c3
  have m1 : gb ≠ w.heap.size := by omega
  have m2 : gh ≠ w.heap.size := by omega
  have m3 : gp ≠ w.heap.size := by omega
  have m4 : gb ≠ w.heap.size + 1 := by omega
  have m5 : gh ≠ w.heap.size + 1 := by omega
  have m6 : gp ≠ w.heap.size + 1 := by omega
  have m7 : gb ≠ w.heap.size + 1 + 1 := by omega
  have m8 : gh ≠ w.heap.size + 1 + 1 := by omega
  have m9 : gp ≠ w.heap.size + 1 + 1 := by omega
  go_wp2
  exact bodyPost_ret (res_dsk2 rfl _ _ (w.heap.size + 1 + 1) _ _ _ (0, 0) rfl XF.out) rfl ⟨rfl, by first | exact fun _ => DD.out | exact DD.out, CC.out⟩

end Go.Proofs.YtbgadbokejaomaaGreatDoor

namespace Go.Proofs.YtbgadbokejaomaaGreatDoor
open Go.RowKit
set_option linter.unusedVariables false

end Go.Proofs.YtbgadbokejaomaaGreatDoor

namespace Go.Proofs.YtbgadbokejaomaaGreatDoor
open Go.RowKit
open Gf (ci nat)
set_option linter.unusedVariables false

end Go.Proofs.YtbgadbokejaomaaGreatDoor

namespace Go.Proofs.YtbgadbokejaomaaGreatDoor
open Go.RowKit
open Gf (ci nat)
set_option linter.unusedVariables false

theorem sc_frB {A : Nat} {E : Int} {row : List Nat} (hA : A ≤ 24) (hE : 0 ≤ E ∧ E ≤ 60000) (hr : row.length = 16) : ofN (frB 2 A E.toNat (bs (ofN row))) = scT A E row := by
  have hg : goodF 2 (A : Int) E (ofN row).size := ⟨⟨by omega, by omega, by omega⟩, hE, by rw [ofN_size]; omega⟩
  have e : frR 2 (A : Int) E (ofN row) = (ofN (frB (2 : Int).toNat (A : Int).toNat E.toNat (bs (ofN row))), true) := if_pos hg
  unfold scT
  rw [e]
  rfl
end Go.Proofs.YtbgadbokejaomaaGreatDoor

namespace Go.Proofs.YtbgadbokejaomaaGreatDoor
open Go.RowKit
open Gf (ci nat)
set_option linter.unusedVariables false

/-- Rows of the call's own, held. -/
def TMat (v : Value) (m : List (List Int)) : Tg := fun lo hi w => Mat w lo hi v m
theorem TMat.st (v : Value) (m : List (List Int)) : (TMat v m).st := fun lo hi a b w w' h hc hd => by
  obtain ⟨vs, hv⟩ := h
  exact ⟨vs, hv.chg hc hd⟩

end Go.Proofs.YtbgadbokejaomaaGreatDoor

namespace Go.Proofs.YtbgadbokejaomaaGreatDoor
open Go.RowKit
open Gf (ci nat)
set_option linter.unusedVariables false

/-- The numbers that are left of the first ones, without those of bad sectors. -/
def lfN (B : List Bool) (a : Nat) (os : List Nat) : Nat → List Nat
  | 0 => []
  | j + 1 => if B.getD (a + os.getD j 0) false = true then lfN B a os j else lfN B a os j ++ [os.getD j 0]
theorem lfN_le (B : List Bool) (a : Nat) (os : List Nat) : ∀ j, (lfN B a os j).length ≤ j
  | 0 => Nat.le_refl _
  | j + 1 => by
    have := lfN_le B a os j
    simp only [lfN]
    split
    · omega
    · simp; omega
theorem lfN_mem (B : List Bool) (a : Nat) (os : List Nat) : ∀ j x, x ∈ lfN B a os j → B.getD (a + x) false = false ∧ ∃ i, i < j ∧ x = os.getD i 0
  | 0, x, h => by simp [lfN] at h
  | j + 1, x, h => by
    simp only [lfN] at h
    split at h
    · obtain ⟨h1, i, h2, h3⟩ := lfN_mem B a os j x h
      exact ⟨h1, i, by omega, h3⟩
    · rename_i hb
      rcases List.mem_append.1 h with h | h
      · obtain ⟨h1, i, h2, h3⟩ := lfN_mem B a os j x h
        exact ⟨h1, i, by omega, h3⟩
      · have hx : x = os.getD j 0 := by simpa using h
        refine ⟨?_, j, by omega, hx⟩
        rw [hx]
        cases hh : B.getD (a + os.getD j 0) false with
        | true => exact absurd hh hb
        | false => rfl
theorem getD_in (l : List Nat) (j : Nat) (h : j < l.length) : l.getD j 0 ∈ l := by
  rw [List.getD_eq_getElem?_getD, List.getElem?_eq_getElem h]
  exact List.getElem_mem h
theorem lfN_ok (B : List Bool) (a : Nat) (os : List Nat) (E : Int) (hE : 0 ≤ E ∧ E ≤ 60000) (n : Nat) : wOk B a E (lfN B a os n) (lfN B a os n).length := fun j hj => ⟨hE, (lfN_mem B a os n _ (getD_in _ j hj)).1⟩
theorem lfN_lt (B : List Bool) (a : Nat) (os : List Nat) (n : Nat) (hn : n ≤ os.length) (h : ∀ j, j < os.length → os.getD j 0 < 5) (j : Nat) (hj : j < (lfN B a os n).length) : (lfN B a os n).getD j 0 < 5 := by
  obtain ⟨_, i, h1, h2⟩ := lfN_mem B a os n _ (getD_in _ j hj)
  rw [h2]
  exact h i (by omega)
theorem wrTo_congr (H : List ByteArray) (A : Nat) (E : Int) (m : List (List Nat)) (ks ks' : List Nat) : ∀ n, (∀ j, j < n → ks.getD j 0 = ks'.getD j 0) → wrTo H A E m ks n = wrTo H A E m ks' n
  | 0, _ => rfl
  | n + 1, h => by
    simp only [wrTo]
    rw [wrTo_congr H A E m ks ks' n (fun j hj => h j (by omega)), h n (by omega)]
/-- What is held behind the first numbers. -/
def mdW (H : List ByteArray) (B : List Bool) (a : Nat) (E : Int) (m : List (List Nat)) (os : List Nat) (j : Nat) : List ByteArray := wrTo H a E m (lfN B a os j) (lfN B a os j).length
theorem mdW_length (H : List ByteArray) (B : List Bool) (a : Nat) (E : Int) (m : List (List Nat)) (os : List Nat) (j : Nat) : (mdW H B a E m os j).length = H.length := wrTo_length _ _ _ _ _ _
theorem lfN_bad {B : List Bool} {a : Nat} {os : List Nat} {j : Nat} (h : B.getD (a + os.getD j 0) false = true) : lfN B a os (j + 1) = lfN B a os j := by simp only [lfN]; rw [if_pos h]
theorem lfN_good {B : List Bool} {a : Nat} {os : List Nat} {j : Nat} (h : B.getD (a + os.getD j 0) false = false) : lfN B a os (j + 1) = lfN B a os j ++ [os.getD j 0] := by simp only [lfN]; rw [if_neg (by rw [h]; decide)]
theorem mdW_bad {H : List ByteArray} {B : List Bool} {a : Nat} {E : Int} {m : List (List Nat)} {os : List Nat} {j : Nat} (h : B.getD (a + os.getD j 0) false = true) : mdW H B a E m os (j + 1) = mdW H B a E m os j := by unfold mdW; rw [lfN_bad h]
theorem mdW_good {H : List ByteArray} {B : List Bool} {a : Nat} {E : Int} {m : List (List Nat)} {os : List Nat} {j : Nat} (h : B.getD (a + os.getD j 0) false = false) :
    mdW H B a E m os (j + 1) = (mdW H B a E m os j).set (a + os.getD j 0) (scT (a + os.getD j 0) E (m.getD (os.getD j 0) [])) := by
  unfold mdW
  rw [lfN_good h, List.length_append]
  generalize lfN B a os j = l
  show (wrTo H a E m (l ++ [os.getD j 0]) l.length).set (a + (l ++ [os.getD j 0]).getD l.length 0) (scT (a + (l ++ [os.getD j 0]).getD l.length 0) E (m.getD ((l ++ [os.getD j 0]).getD l.length 0) [])) = _
  have e1 : (l ++ [os.getD j 0]).getD l.length 0 = os.getD j 0 := by simp [List.getD_eq_getElem?_getD]
  have e2 : wrTo H a E m (l ++ [os.getD j 0]) l.length = wrTo H a E m l l.length := wrTo_congr _ _ _ _ _ _ _ (fun i hi => by simp [List.getD_eq_getElem?_getD, List.getElem?_append_left hi])
  rw [e1, e2]
/-- The others' numbers. -/
def othN (xs : List Pc) : List Nat := nat (othE (xs.map epo) (rtX xs) 5)
theorem ci_nat0 : ∀ l : List Int, (∀ x ∈ l, 0 ≤ x) → ci (nat l) = l
  | [], _ => rfl
  | a :: l, h => by
    show ((a.toNat : Nat) : Int) :: ci (nat l) = a :: l
    rw [ci_nat0 l (fun x hx => h x (List.mem_cons_of_mem _ hx)), Int.toNat_of_nonneg (h a List.mem_cons_self)]
theorem othN_ci (xs : List Pc) : ci (othN xs) = othE (xs.map epo) (rtX xs) 5 := ci_nat0 _ (fun x hx => (pkE_mem _ _ _ x hx).1)
theorem othN_le (xs : List Pc) : (othN xs).length ≤ 5 := by
  unfold othN nat
  rw [List.length_map]
  exact pkE_le _ _ _
theorem othN_lt (xs : List Pc) (j : Nat) (h : j < (othN xs).length) : (othN xs).getD j 0 < 5 := by
  have := getD_in _ j h
  generalize (othN xs).getD j 0 = x at *
  unfold othN nat at this
  obtain ⟨y, hy, rfl⟩ := List.mem_map.1 this
  have := pkE_mem _ _ _ y hy
  omega
/-- The pieces decoded, as elements. -/
def dcN (xs : List Pc) : List (List Nat) := (dcM xs).map nat
theorem dcN_length {xs : List Pc} (h : R16 (dcM xs)) : (dcN xs).length = 5 := by unfold dcN; rw [List.length_map, h.len]
theorem dcN_get {xs : List Pc} (h : R16 (dcM xs)) (i : Nat) (hi : i < 5) : (dcN xs).getD i [] = nat ((dcM xs).getD i []) := by
  unfold dcN
  simp only [List.getD_eq_getElem?_getD]
  rw [List.getElem?_map, List.getElem?_eq_getElem (by rw [h.len]; omega)]
  rfl
theorem dcN_ok {xs : List Pc} (h : R16 (dcM xs)) (i : Nat) (hi : i < 5) : ((dcN xs).getD i []).length = 16 ∧ ∀ x ∈ (dcN xs).getD i [], x < 256 := by
  obtain ⟨h1, h2⟩ := h.row i hi
  rw [dcN_get h i hi]
  refine ⟨by unfold nat; rw [List.length_map, h1], ?_⟩
  have h3 := Gf.nat_lt h2
  intro x hx
  obtain ⟨j, hj, rfl⟩ := List.getElem_of_mem hx
  have h2 := h3 j
  rw [List.getD_eq_getElem?_getD, List.getElem?_eq_getElem hj, Option.getD_some] at h2
  exact h2
theorem dcN_ci {xs : List Pc} (h : R16 (dcM xs)) : (dcN xs).map ci = dcM xs := by
  unfold dcN
  rw [List.map_map]
  refine (List.map_congr_left (g := id) fun r hr => ?_).trans (List.map_id _)
  obtain ⟨i, hi, rfl⟩ := List.getElem_of_mem hr
  have h2 := (h.row i (by rw [h.len] at hi; exact hi)).2
  rw [List.getD_eq_getElem?_getD, List.getElem?_eq_getElem hi] at h2
  exact Gf.ci_nat h2
theorem rtX_le {xs : List Pc} (hok : ∀ k, okP (xs.getD k none)) : rtX xs ≤ 60000 := by
  refine rtE_le _ (fun k => ?_) _
  by_cases hk : k < xs.length
  · rw [map_getD xs k hk]
    have := hok k
    generalize xs.getD k none = x at *
    cases x with
    | none => show (-1 : Int) ≤ _; decide
    | some y => exact (this y rfl).1.2
  · rw [List.getD_eq_getElem?_getD, List.getElem?_eq_none (by rw [List.length_map]; omega)]
    show (0 : Int) ≤ _
    decide

set_option maxRecDepth 100000 in
set_option maxHeartbeats 1600000 in
theorem withoutBad_calls (p h b vk : Value) (B : List Bool) (a : Nat) (os : List Nat) (w : World) (hb : RdZ w b B) (hk : Rd w vk (ci os)) (hl : os.length ≤ 5) (hlt : ∀ j, j < os.length → os.getD j 0 < 5) (ha : a + 5 ≤ B.length) (hB : B.length ≤ 24) :
    Calls Tryz.prog 110 #[.agg #[p, h, b], .int .i64 (a : Int), vk] w fun e w' => ∃ v', e = .returned v' ∧ Own w' w.heap.size v' (ci (lfN B a os os.length)) ∧ Below w.heap.size w w' := by
  have LT := hide hlt
  obtain ⟨W0, hW⟩ : ∃ W0, W0 = w.alloc (.cells #[p, h, b] 26) := ⟨_, rfl⟩
  have b0 : Below w.heap.size w W0 := by rw [hW]; exact below_box _ _
  have bx : BoxAt W0 w.heap.size #[p, h, b] 26 := by rw [hW]; exact BoxAt.new _ _ _
  have RB := hide (hb.below b0)
  have RK := hide (hk.below b0)
  obtain ⟨ab, cb, rfl, mb, _⟩ := hb.sl
  obtain ⟨ak, ck, hvk, _⟩ := hk
  rw [Gf.ci_length] at hvk
  subst hvk
  have BX := hide bx
  have BW := hide b0
  have HW := hide hW
  have OL := hide (lfN_le B a os)
  obtain ⟨lf, hlf⟩ : ∃ lf : Nat → List Nat, lf = lfN B a os := ⟨_, rfl⟩
  have O0 : Hid (lf 0 = []) := by show _ = _; rw [hlf]; rfl
  have OB : Hid (∀ j, B.getD (a + os.getD j 0) false = true → lf (j + 1) = lf j) := fun j hj => by rw [hlf]; exact lfN_bad hj
  have OG : Hid (∀ j, B.getD (a + os.getD j 0) false = false → lf (j + 1) = lf j ++ [os.getD j 0]) := fun j hj => by rw [hlf]; exact lfN_good hj
  rw [← hlf] at OL ⊢
  have OI : Hid ((W0.alloc (.cells #[] 3)).ownsRow W0.heap.size 3 1 (.slice (some ⟨W0.heap.size, 0, none⟩) 0 0) 0 (([] : List Int).map (Value.int .i64))) := by
    show World.ownsRow _ _ _ _ _ _ _
    have := World.ownsRow_lit (base := W0.heap.size) (e := 3) (size := 1) W0 #[] 0 (Nat.le_refl _) (by unfold maxLen; omega) (by simp)
    simpa using this
  have BI := hide (below_box W0 (.cells #[] 3))
  obtain ⟨nb, hnb⟩ : ∃ nb, nb = B.length := ⟨_, rfl⟩
  rw [← hnb] at ha hB mb BX RB HW ⊢
  have NB := hide hnb
  clear hlf b0 bx hW hnb hlt hb
  go_enter Tryz.func110, Tryz.ntmps110
  go_wp2
  rw [← HW.out]
  go_loopw [7, 9, 13] (fun vo _ vi wr => ∃ (k : Nat) (ao : Option Addr) (co : Nat), k ≤ os.length ∧ vi = .int .i64 k ∧ vo = .slice ao (lf k).length co ∧ Own wr W0.heap.size (.slice ao (lf k).length co) (ci (lf k)) ∧ Below W0.heap.size W0 wr) (fun _ _ vi _ => os.length - (intOf vi).toNat)
  case atStart =>
    refine ⟨0, some ⟨W0.heap.size, 0, none⟩, 0, Nat.zero_le _, rfl, ?_, ?_, BI.out⟩
    · rw [O0.out]
      have := congrArg (fun W : World => W.heap.size) HW.out
      simp only [World.size_alloc] at this
      first | rfl | simp [this]
    · rw [O0.out]
      exact OI.out
  case round =>
    obtain ⟨k, ao, co, hk, rfl, rfl, ho, hb⟩ := hrel
    have O := hide ho
    have HB := hide hb
    have l1 := OL.out k
    clear ho
    by_cases hlt : k < os.length
    · obtain ⟨kb, ko, hka, hkc⟩ := (RK.out.below hb).nth k (by rw [Gf.ci_length]; exact hlt)
      subst hka
      rw [Gf.ci_getD] at hkc
      have hz5 := LT.out k hlt
      have hlt' : (k : Int) < (os.length : Int) := by omega
      have SB := hide (OB.out k)
      have SG := hide (OG.out k)
      generalize os.getD k 0 = z at *
      obtain ⟨gb, off, hga, hc, _⟩ := (RB.out.below hb).cell (a + z) (by rw [← NB.out]; omega)
      subst hga
      have E5 : Hid ((a : Int) + (z : Int) = ((a + z : Nat) : Int)) := by show _ = _; omega
      have hi0 : (a : Int) + (z : Int) < (nb : Int) := by omega
      have sx2 := (BX.out.below hb).cell 2
      clear hb
      cases hy : B.getD (a + z) false with
      | true =>
        rw [hy] at hc
        have e1 := hide (SB.out hy)
        go_wp2
        go_roundw
        case rel =>
          refine ⟨k + 1, ao, co, by omega, by go_num, by rw [e1.out], ?_, HB.out⟩
          rw [e1.out]
          exact O.out
        case measure => simp [intOf]; omega
      | false =>
        rw [hy] at hc
        have e1 := hide (SG.out hy)
        have s2 := HB.out.size
        have hcl : (ci (lf k)).length = (lf k).length := Gf.ci_length _
        go_wp2_with (at_builtin; refine wpList_append_int1 rfl _ _ rfl W0.heap.size _ (lf k).length (ci (lf k)) z rfl (ownsRow_below (by have := O.out; unfold Own at this; rw [hcl] at this; exact this) (below_box _ _)) wr.heap.size rfl (World.cell?_alloc_at _ _ _ _ (by simp)) (by omega) (by simp; omega) ?_)
        intro g4 c4 w4 o4 p4 q4 r4
        have HL4 : Hid ((lf (k + 1)).length = (lf k).length + 1) := by show _ = _; rw [e1.out, List.length_append]; rfl
        have O4 : Hid (Own w4 W0.heap.size (.slice (some ⟨g4, 0, none⟩) ((lf k).length + 1) c4) (ci (lf (k + 1)))) := by
          show World.ownsRow _ _ _ _ _ (ci (lf (k + 1))).length _
          rw [Gf.ci_length, HL4.out, e1.out]
          show World.ownsRow _ _ _ _ _ _ ((ci (lf k ++ [z])).map _)
          have : ci (lf k ++ [z]) = ci (lf k) ++ [(z : Int)] := by simp [ci]
          rw [this, List.map_append]
          exact o4
        have B4 : Hid (Below W0.heap.size W0 w4) := (HB.out.alloc HB.out.size _).grown p4 (by simp; omega) (fun z hz => (World.ownsRow.lt O.out z hz).1)
        clear o4 p4 q4 r4 O
        go_wp2
        go_roundw
        case rel =>
          refine ⟨k + 1, some ⟨g4, 0, none⟩, c4, by omega, by go_num, by rw [HL4.out], ?_, B4.out⟩
          rw [HL4.out]
          exact O4.out
        case measure => simp [intOf]; omega
    · obtain rfl : k = os.length := by omega
      clear hb
      go_wp2
      go_ret
      exact ⟨_, rfl, Own.mono O.out BW.out.size, BW.out.trans (HB.out.mono BW.out.size)⟩
end Go.Proofs.YtbgadbokejaomaaGreatDoor
