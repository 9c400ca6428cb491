/-
  What the laws of words draw: elements, and words with some bytes wrong. Each contract says what it asks. What the laws of words draw: words with some bytes wrong, and what comes of them. Each contract says what it asks. What the law of locators draws last: two lists that may be unlike. Each contract says what it asks. Facts for the law of locators: another message makes a word that is unlike at more places than twice so many; a locator begins with 1. No condition. Bytes that a law holds, with what they are, and the number that is made of them; what the law of words asks of the mathematics. Each contract says what it asks. A word put right: the program's DecodeWord, call by call. The program's table of rests must hold its seven numbers. A word put right: the model's DecodeWord, call by call. No condition.
-/
import Derived.Test.YtogopakmebiomaaDoorWordsB13
import Derived.Test.YtogopakmebiomaaDoorWordsB10
import Derived.Test.YtogopakmebiomaaDoorWordsB11
namespace Go.Proofs.YtogopakmebiomaaDoor
open Go.RowKit
open Gf (wdOk wOk)

theorem all_snoc {xs : List Int} {q : Nat} (h : xs.all Gf.elOk = true) (hq : q < 256) : (xs ++ [(q : Int)]).all Gf.elOk = true := by
  rw [List.all_append, h, Bool.true_and]
  simp [Gf.elOk]
  omega
theorem all_setE {xs : List Int} {i q : Nat} (h : xs.all Gf.elOk = true) (hq : q < 256) : (xs.set i (q : Int)).all Gf.elOk = true := by
  rw [List.all_eq_true] at *
  intro x hx
  rcases List.mem_or_eq_of_mem_set hx with h1 | h1
  · exact h x h1
  · rw [h1]; exact Gf.elOk_iff.2 (by omega)
theorem wordW_el {xs : List Int} {n : Nat} (hn : n ≤ 3) (he : xs.all Gf.elOk = true) (hl : xs.length ≤ 24) : (Gf.wordW xs n).all Gf.elOk = true := by
  have h1 := Gf.goodP_mem (Gf.rest_good hn he hl)
  have h2 := List.all_eq_true.1 (Gf.rawW_all n he)
  rw [List.all_eq_true]
  intro x hx
  unfold Gf.wordW spl at hx
  rw [List.take_zero, List.nil_append, List.mem_append] at hx
  rcases hx with hx | hx
  · exact Gf.elOk_iff.2 (h1 x hx)
  · exact h2 x (List.mem_of_mem_drop hx)
theorem grown_of_below {w w' : World} (hb : Below w.heap.size w w') (row : Option Nat) : w.grownBy w' row := ⟨hb.os, hb.tape, hb.output, hb.size, fun k hk _ => hb.block k hk⟩
theorem CurS.keptW {w w' : World} {g k : Nat} {cv : Value} (h : CurS w g cv k) (hb : Below w.heap.size w w') (hrb : ∀ w2, w'.grownBy w2 (some g) → RdB w2 cv) : CurS w' g cv k :=
  CurS.far h (grown_of_below hb none) (fun j hj => by cases hj) hrb

set_option maxRecDepth 100000 in
set_option maxHeartbeats 3200000 in
theorem elements_calls (g : Nat) (cv : Value) (k n : Nat) (w : World) (h : CurS w g cv k) (hk : k ≤ 1000000) (hn : n ≤ 64) (hcb : ∀ w', Below g w w' → RdB w' cv) :
    Calls Tryd.prog 95 #[.pointer (some ⟨g, 0, none⟩), .int .i64 n] w fun e w' => ∃ (v' : Value) (xs : List Int), e = .returned v' ∧ xs.length = n ∧ xs.all Gf.elOk = true ∧ Own w' w.heap.size v' xs ∧ CurS w' g cv (k + 2 * n) ∧ w.grownBy w' (some g) := by
  have C0 := hide h
  have LO := hide hcb
  have lt0 := curS_lt h
  clear h hcb
  go_enter Tryd.func95, Tryd.ntmps95
  go_wp2
  go_loopw [1, 5] (fun vn vl wr => ∃ (r : Nat) (xs : List Int), vn = .int .i64 r ∧ xs.length + r = n ∧ xs.all Gf.elOk = true ∧ Own wr w.heap.size vl xs ∧ CurS wr g cv (k + 2 * xs.length) ∧ w.grownBy wr (some g)) (fun vn _ _ => (intOf vn).toNat)
  case atStart => exact ⟨n, [], rfl, by simp, rfl, World.ownsRow_nil _ _ _ _, C0.out.mono (by simp), World.grownBy.refl _ _⟩
  case round =>
    obtain ⟨r, xs, rfl, hlen, hel, hown, hcur, hgr⟩ := hrel
    have O := hide hown
    have C := hide hcur
    have G := hide hgr
    have XL := hide hlen
    have EL := hide hel
    have s1 := hgr.size
    have xl : xs.length ≤ 64 := by omega
    have r4 : r ≤ 64 := by omega
    clear hown hcur hgr hlen hel
    by_cases hr : 0 < r
    · have hr' : (0 : Int) < (r : Int) := by omega
      obtain ⟨vr, hvr⟩ : ∃ vr, vr = u5 := ⟨_, rfl⟩
      subst hvr
      go_wp2_with fail
      refine (pick_calls g _ (k + 2 * xs.length) 256 _ C.out (by omega) (by omega) (by omega)).mono ?_
      rintro e w4 ⟨q, hq, rfl, hc4, hg4⟩
      have C4 := hide hc4
      have G4 := hide (grown_trans G.out hg4)
      have O4 := hide (own_keep O.out hg4 lt0)
      have O5 : Hid (Own (w4.alloc (.cells #[.int .i64 (q : Int)] 3)) w.heap.size vr xs) := O4.out.alloc _
      have s4 := hg4.size
      clear hc4 hg4
      go_wp2_with (at_builtin; refine wpList_append_rd rfl (.tmp 10) (.tmp 13) rfl w.heap.size _ xs.length xs [(q : Int)] rfl O5.out _ rfl rd_single (by simp; omega) (by simp; omega) ?_)
      intro v' w5 ho5 hg5
      have hg5' : w4.grownBy w5 vr.ownBlock := Gf.grownBy_trans (World.grownBy_alloc _ _ _) hg5
      have hfar : ∀ b, vr.ownBlock = some b → w.heap.size ≤ b := fun b hb => (O4.out.lt b hb).1
      have G5 := hide (grown_far G4.out hg5' hfar)
      have C5 : Hid (CurS w5 g cv (k + 2 * (xs.length + 1))) := by
        refine (CurS.far C4.out hg5' (fun b hb => by have := hfar b hb; omega) (fun w' h' => LO.out w' (grown_low (grown_trans G5.out h') lt0))).mono ?_
        omega
      have O6 := hide ho5
      have E6 := hide (all_snoc EL.out hq)
      clear ho5 hg5 hg5' hfar
      go_wp2
      go_roundw
      case rel => exact ⟨r - 1, xs ++ [(q : Int)], Gf.int_eq (by omega), by simp; have := XL.out; omega, E6.out, O6.out, by simpa using C5.out, G5.out⟩
      case measure => simp [intOf]; omega
    · obtain rfl : r = 0 := by omega
      have hx : xs.length = n := by have := XL.out; omega
      go_wp2
      go_ret
      exact ⟨_, xs, rfl, hx, EL.out, O.out, by rw [← hx]; exact C.out, G.out⟩
end Go.Proofs.YtogopakmebiomaaDoor

namespace Go.Proofs.YtogopakmebiomaaDoor
open Go.RowKit
open Gf (wdOk wOk)

set_option maxRecDepth 100000 in
set_option maxHeartbeats 3200000 in
theorem spoiltWord_calls (g : Nat) (cv : Value) (k : Nat) (w : World) (h : CurS w g cv k) (hk : k ≤ 900000) (hcb : ∀ w', Below g w w' → RdB w' cv) :
    Calls Tryd.prog 96 #[.pointer (some ⟨g, 0, none⟩)] w fun e w' => ∃ (v' : Value) (xs : List Int) (t : Nat), e = .returned (.tuple #[v', .int .i64 t]) ∧ wdOk xs t = true ∧ t ≤ 3 ∧ Own w' w.heap.size v' xs ∧ CurS w' g cv (k + 1000) ∧ w.grownBy w' (some g) := by
  have C0 := hide h
  have LO := hide hcb
  have lt0 := curS_lt h
  clear h hcb
  go_enter Tryd.func96, Tryd.ntmps96
  go_wp2_with fail
  refine (pick_calls g _ k 3 _ C0.out (by omega) (by omega) (by omega)).mono ?_
  rintro e w1 ⟨p, hp, rfl, hc1, hg1⟩
  have C1 := hide hc1
  have G1 := hide hg1
  have s1 := hg1.size
  clear hc1 hg1
  go_wp2_with fail
  refine (pick_calls g _ (k + 2) 8 _ C1.out (by omega) (by omega) (by omega)).mono ?_
  rintro e w2 ⟨q, hq, rfl, hc2, hg2⟩
  have C2 := hide hc2
  have G2 := hide (grown_trans G1.out hg2)
  have s2 := hg2.size
  clear hc2 hg2
  go_wp2_with fail
  obtain ⟨N, hN⟩ : ∃ N : Nat, N = 1 + q := ⟨_, rfl⟩
  have eN : (1 : Int) + (q : Int) = (N : Int) := by omega
  rw [eN]
  refine (elements_calls g _ (k + 4) N _ C2.out (by omega) (by omega) (fun w' hb => LO.out w' ((grown_low G2.out lt0).trans hb))).mono ?_
  rintro e w3 ⟨v3, ms, rfl, hml, hme, ho3, hc3, hg3⟩
  have C3 := hide hc3
  have G3 := hide (grown_trans G2.out hg3)
  have R3 := hide ho3.rd
  have ME := hide hme
  have s3 := hg3.size
  have ms1 : 1 ≤ ms.length := by omega
  have ms8 : ms.length ≤ 8 := by omega
  have N8 : N ≤ 8 := by omega
  clear hc3 hg3 ho3 hme eN hml hN
  go_wp2_with fail
  obtain ⟨t, ht⟩ : ∃ t : Nat, t = 1 + p := ⟨_, rfl⟩
  have et : (1 : Int) + (p : Int) = (t : Int) := by omega
  have t1 : 1 ≤ t := by omega
  have t3 : t ≤ 3 := by omega
  have ok1 : Gf.meOk ms t = true := Gf.meOk_mk (Gf.wOk_iff.2 (by omega)) ms1 (by omega) ME.out
  have EO : Hid (Gf.encW ms t = (Gf.wordW ms t, true)) := by
    have := Gf.encW_yes ok1
    rwa [Int.toNat_natCast] at this
  clear ok1
  rw [et]
  clear et ht hp
  refine (Gf.sEncodeWord_calls _ ms t _ R3.out).mono ?_
  rw [EO.out]
  rintro e w4 ⟨v4, rfl, ho4, hb4⟩
  have G4 := hide (grown_trans G3.out (grown_of_below hb4 (some g)))
  have C4 := hide (CurS.keptW C3.out hb4 (fun w' h' => LO.out w' (grown_low (grown_trans G4.out h') lt0)))
  have s4 := hb4.size
  have hwl := Gf.wordW_length (n := t) t3 ME.out (by omega)
  obtain ⟨N4, hN4⟩ : ∃ N4, N4 = 2 * t + ms.length := ⟨_, rfl⟩
  rw [← hN4] at hwl
  have N4b : N4 ≤ 14 := by omega
  have N4c : 1 ≤ N4 := by omega
  have N4d : 2 * t < N4 := by omega
  obtain ⟨gl, cl, hv4, hgl1, hgl2, _⟩ := Gf.Own.open ho4 (by rw [hwl]; omega)
  rw [hwl] at hv4
  subst hv4
  have O4 : Hid (w4.ownsRow w3.heap.size 3 1 (.slice (some ⟨gl, 0, none⟩) N4 cl) N4 ((Gf.wordW ms t).map (Value.int .i64))) := by
    have := ho4
    unfold Own at this
    rwa [hwl] at this
  have WE := hide (wordW_el (n := t) t3 ME.out (by omega))
  have WL := hide hwl
  clear ho4 hb4 hwl hN4
  go_wp2_with fail
  obtain ⟨M, hM⟩ : ∃ M : Nat, M = t + 2 := ⟨_, rfl⟩
  have eM : (t : Int) + 2 = (M : Int) := by omega
  rw [eM]
  refine (pick_calls g _ (k + 4 + 2 * N) M _ C4.out (by omega) (by omega) (by omega)).mono ?_
  rintro e w5 ⟨m, hm, rfl, hc5, hg5⟩
  have C5 := hide hc5
  have G5 := hide (grown_trans G4.out hg5)
  have s5 := hg5.size
  have hglg : g < w3.heap.size := by omega
  have O5 : Hid (w5.ownsRow w3.heap.size 3 1 (.slice (some ⟨gl, 0, none⟩) N4 cl) N4 ((Gf.wordW ms t).map (Value.int .i64))) := O4.out.kept hg5 (.inr (by simp [Value.ownBlock]; omega))
  clear hc5 hg5 eM
  have hm5 : m ≤ 5 := by omega
  go_wp2
  go_loopw [7] (fun vn wr => ∃ (r : Nat) (xs : List Int), vn = .int .i64 r ∧ r ≤ 5 ∧ xs.length = N4 ∧ xs.all Gf.elOk = true ∧ wr.ownsRow w3.heap.size 3 1 (.slice (some ⟨gl, 0, none⟩) N4 cl) N4 (xs.map (Value.int .i64)) ∧ CurS wr g cv (k + 200 - 4 * r) ∧ w.grownBy wr (some g)) (fun vn _ => (intOf vn).toNat)
  case atStart => exact ⟨m, _, rfl, hm5, WL.out, WE.out, O5.out, C5.out.mono (by omega), G5.out⟩
  case round =>
    obtain ⟨r, xs, rfl, hr5, hxl, hxe, ho, hc, hg⟩ := hrel
    have O := hide ho
    have C := hide hc
    have G := hide hg
    have XL := hide hxl
    have XE := hide hxe
    clear ho hc hg hxl hxe
    by_cases hr : 0 < r
    · have hr' : (0 : Int) < (r : Int) := by omega
      go_wp2_with fail
      refine (pick_calls g _ (k + 200 - 4 * r) N4 _ C.out (by omega) (by omega) (by omega)).mono ?_
      rintro e w6 ⟨i, hi, rfl, hc6, hg6⟩
      have C6 := hide hc6
      have G6 := hide (grown_trans G.out hg6)
      have O6 : Hid (w6.ownsRow w3.heap.size 3 1 (.slice (some ⟨gl, 0, none⟩) N4 cl) N4 (xs.map (Value.int .i64))) := O.out.kept hg6 (.inr (by simp [Value.ownBlock]; omega))
      clear hc6 hg6
      go_wp2_with fail
      refine (pick_calls g _ (k + 200 - 4 * r + 2) 256 _ C6.out (by omega) (by omega) (by omega)).mono ?_
      rintro e w7 ⟨z, hz, rfl, hc7, hg7⟩
      have G7 := hide (grown_trans G6.out hg7)
      have C7 := hide hc7
      have O7 : Hid (w7.ownsRow w3.heap.size 3 1 (.slice (some ⟨gl, 0, none⟩) N4 cl) N4 (xs.map (Value.int .i64))) := O6.out.kept hg7 (.inr (by simp [Value.ownBlock]; omega))
      have hcf := O7.out.frozenAt i
      obtain ⟨old, hcc⟩ : ∃ old, w7.cell? ⟨gl, i, none⟩ = some old := by
        rw [O7.out.cellAt i (by omega)]
        exact ⟨_, List.getElem?_eq_getElem (by rw [List.length_map, XL.out]; exact hi)⟩
      have K := hide (O7.out.stored i (.int .i64 (z : Int)))
      have i2 : (i : Int) < (N4 : Int) := by omega
      clear hc7 hg7
      go_wp2
      go_roundw
      case rel =>
        have hk2 := K.out
        have hgf : w.grownBy (w7.setCell ⟨gl, i, none⟩ (.int .i64 (z : Int))) (some g) := grown_far G7.out hk2.2 (fun j hj => by cases hj; omega)
        refine ⟨r - 1, xs.set i (z : Int), Gf.int_eq (by omega), by omega, by rw [List.length_set, XL.out], all_setE XE.out hz, ?_, ?_, hgf⟩
        · have := hk2.1
          rw [← List.map_set] at this
          exact this
        · exact (CurS.far C7.out hk2.2 (fun j hj => by cases hj; omega) (fun w' h' => LO.out w' (grown_low (grown_trans hgf h') lt0))).mono (by omega)
      case measure => simp [intOf]; omega
    · obtain rfl : r = 0 := by omega
      have hwd : wdOk xs t = true := Gf.wdOk_mk (Gf.wOk_iff.2 (by omega)) (by rw [XL.out]; omega) (by rw [XL.out]; omega) XE.out
      have O8 : Hid (Own wr w.heap.size (.slice (some ⟨gl, 0, none⟩) N4 cl) xs) := by
        refine Own.mono (base := w3.heap.size) ?_ (by omega)
        show World.ownsRow _ _ _ _ _ xs.length _
        rw [XL.out]
        exact O.out
      have WD := hide hwd
      clear hwd
      go_wp2
      go_ret2
      exact ⟨_, xs, t, rfl, WD.out, t3, O8.out, C.out.mono (by omega), G.out⟩
set_option maxRecDepth 100000 in
set_option maxHeartbeats 1600000 in
theorem drawSyndromesOf_calls (cv : Value) (w : World) (h : RdB w cv) :
    Calls Tryd.prog 35 #[cv] w fun e w' => ∃ (v : Value) (xs : List Int) (t : Nat), e = .returned (.tuple #[v, .int .i64 t]) ∧ wdOk xs t = true ∧ t ≤ 3 ∧ Rd w' v xs ∧ Below w.heap.size w w' := by
  have C0 := hide (cur_new h)
  have LO := hide (draw_low h)
  obtain ⟨a0, cap0, zs0, rfl, _⟩ := h
  go_enter Tryd.func35, Tryd.ntmps35
  go_wp2_with fail
  refine (spoiltWord_calls w.heap.size _ 0 _ C0.out (by omega) (fun w' hb => LO.out w' hb)).mono ?_
  rintro e w1 ⟨v, xs, t, rfl, hwd, ht, ho, hc, hg⟩
  have R := hide ho.rd
  have B := hide (cur_below hg)
  clear ho hc hg
  go_wp2
  go_ret2
  exact ⟨_, xs, t, rfl, hwd, ht, R.out, B.out⟩
set_option maxRecDepth 100000 in
set_option maxHeartbeats 1600000 in
theorem drawDecodeWord_calls (cv : Value) (w : World) (h : RdB w cv) :
    Calls Tryd.prog 33 #[cv] w fun e w' => ∃ (v : Value) (xs : List Int) (t : Nat), e = .returned (.tuple #[v, .int .i64 t]) ∧ wdOk xs t = true ∧ t ≤ 3 ∧ Rd w' v xs ∧ Below w.heap.size w w' := by
  have H := hide h
  clear h
  go_enter Tryd.func33, Tryd.ntmps33
  go_wp2_with fail
  refine (drawSyndromesOf_calls cv _ H.out).mono ?_
  rintro e w1 ⟨v, xs, t, rfl, hwd, ht, hr, hb⟩
  have R := hide hr
  have B := hide hb
  clear hr hb
  go_wp2
  go_ret2
  exact ⟨_, xs, t, rfl, hwd, ht, R.out, B.out⟩
set_option maxRecDepth 100000 in
set_option maxHeartbeats 1600000 in
theorem drawGeneratorOf_calls (cv : Value) (w : World) (h : RdB w cv) :
    Calls Tryd.prog 36 #[cv] w fun e w' => ∃ t : Int, e = .returned (.int .i64 t) ∧ (-1 ≤ t ∧ t ≤ 4) ∧ Below w.heap.size w w' := by
  have C0 := hide (cur_new h)
  obtain ⟨a0, cap0, zs0, rfl, _⟩ := h
  go_enter Tryd.func36, Tryd.ntmps36
  go_wp2_with fail
  refine (pick_calls w.heap.size _ 0 6 _ C0.out (by omega) (by omega) (by omega)).mono ?_
  rintro e w1 ⟨p, hp, rfl, hc1, hg1⟩
  have B := hide (cur_below hg1)
  clear hc1 hg1
  go_wp2
  go_ret
  exact ⟨(p : Int) - 1, rfl, by omega, B.out⟩
set_option maxRecDepth 100000 in
set_option maxHeartbeats 1600000 in
theorem drawLocatorOf_calls (cv : Value) (w : World) (h : RdB w cv) :
    Calls Tryd.prog 34 #[cv] w fun e w' => ∃ (v : Value) (xs : List Int), e = .returned v ∧ Rd w' v xs ∧ xs.length ≤ 8 ∧ Below w.heap.size w w' := by
  have C0 := hide (cur_new h)
  have LO := hide (draw_low h)
  obtain ⟨a0, cap0, zs0, rfl, _⟩ := h
  go_enter Tryd.func34, Tryd.ntmps34
  go_wp2_with fail
  refine (one_calls w.heap.size _ 0 12 _ C0.out (by omega) (by omega) (by omega)).mono ?_
  rintro e w1 ⟨b, rfl, hc1, hg1⟩
  have C1 := hide hc1
  have G1 := hide hg1
  clear hc1 hg1 C0
  cases b with
  | true =>
    go_wp2_with fail
    refine (pick_calls w.heap.size _ 2 8 _ C1.out (by omega) (by omega) (by omega)).mono ?_
    rintro e w2 ⟨p, hp, rfl, hc2, hg2⟩
    have C2 := hide hc2
    have G2 := hide (grown_trans G1.out hg2)
    clear hc2 hg2
    go_wp2_with fail
    refine (elements_calls w.heap.size _ 4 p _ C2.out (by omega) (by omega) (fun w' hb => LO.out w' ((grown_low G2.out (by simp)).trans hb))).mono ?_
    rintro e w3 ⟨v3, xs, rfl, hl, he, ho, hc3, hg3⟩
    have R := hide ho.rd
    have B := hide (cur_below (grown_trans G2.out hg3))
    have XL : Hid (xs.length ≤ 8) := by show xs.length ≤ 8; omega
    clear ho hc3 hg3 hl
    go_wp2
    go_ret
    exact ⟨_, xs, rfl, R.out, XL.out, B.out⟩
  | false =>
    go_wp2_with fail
    refine (spoiltWord_calls w.heap.size _ 2 _ C1.out (by omega) (fun w' hb => LO.out w' ((grown_low G1.out (by simp)).trans hb))).mono ?_
    rintro e w2 ⟨v, xs, t, rfl, hwd, ht, ho, hc, hg⟩
    have R := hide ho.rd
    have B := hide (cur_below (grown_trans G1.out hg))
    have SY : Hid (Gf.synR xs t = (Gf.synI xs (2 * t), true)) := by
      have := Gf.synR_yes hwd
      rwa [Int.toNat_natCast] at this
    clear ho hc hg
    go_wp2_with fail
    refine (Gf.sSyndromesOf_calls _ xs t _ R.out).mono ?_
    rw [SY.out]
    rintro e w3 ⟨v3, rfl, ho3, hb3⟩
    have R3 := hide ho3.rd
    have B3 := hide (B.out.trans (hb3.mono B.out.size))
    clear ho3 hb3
    go_wp2
    go_ret
    exact ⟨_, _, rfl, R3.out, by rw [Gf.synI_length]; omega, B3.out⟩
set_option maxRecDepth 100000 in
set_option maxHeartbeats 1600000 in
theorem drawEncodeWord_calls (cv : Value) (w : World) (h : RdB w cv) :
    Calls Tryd.prog 29 #[cv] w fun e w' => ∃ (v : Value) (xs : List Int) (t : Nat), e = .returned (.tuple #[v, .int .i64 t]) ∧ xs.all Gf.elOk = true ∧ xs.length ≤ 24 ∧ t ≤ 4 ∧ Rd w' v xs ∧ Below w.heap.size w w' := by
  have C0 := hide (cur_new h)
  have LO := hide (draw_low h)
  obtain ⟨a0, cap0, zs0, rfl, _⟩ := h
  go_enter Tryd.func29, Tryd.ntmps29
  go_wp2_with fail
  refine (pick_calls w.heap.size _ 0 3 _ C0.out (by omega) (by omega) (by omega)).mono ?_
  rintro e w1 ⟨p, hp, rfl, hc1, hg1⟩
  have C1 := hide hc1
  have G1 := hide hg1
  clear hc1 hg1 C0
  go_wp2_with fail
  refine (one_calls w.heap.size _ 2 20 _ C1.out (by omega) (by omega) (by omega)).mono ?_
  rintro e w2 ⟨b, rfl, hc2, hg2⟩
  have C2 := hide hc2
  have G2 := hide (grown_trans G1.out hg2)
  clear hc2 hg2
  cases b with
  | true =>
    go_wp2_with fail
    refine (pick_calls w.heap.size _ 4 7 _ C2.out (by omega) (by omega) (by omega)).mono ?_
    rintro e w3 ⟨q, hq, rfl, hc3, hg3⟩
    have C3 := hide hc3
    have G3 := hide (grown_trans G2.out hg3)
    clear hc3 hg3
    go_wp2_with fail
    obtain ⟨N, hN⟩ : ∃ N : Nat, N = 17 + q := ⟨_, rfl⟩
    rw [show (17 : Int) + (q : Int) = (N : Int) by omega]
    refine (elements_calls w.heap.size _ 6 N _ C3.out (by omega) (by omega) (fun w' hb => LO.out w' ((grown_low G3.out (by simp)).trans hb))).mono ?_
    rintro e w4 ⟨v4, xs, rfl, hl, he, ho, hc4, hg4⟩
    have R := hide ho.rd
    have O := hide ho
    have C4 := hide hc4
    have G4 := hide (grown_trans G3.out hg4)
    have s3 := G3.out.size
    have XL : Hid (xs.length ≤ 24) := by show xs.length ≤ 24; omega
    have XE := hide he
    have N24 : N ≤ 24 := by omega
    have lt3 := curS_lt C3.out
    clear ho hc4 hg4 hl he hN
    go_wp2_with fail
    refine (pick_calls w.heap.size _ (6 + 2 * N) 5 _ C4.out (by omega) (by omega) (by omega)).mono ?_
    rintro e w5 ⟨t, ht, rfl, hc5, hg5⟩
    have R5 := hide (own_keep O.out hg5 lt3).rd
    have B := hide (cur_below (grown_trans G4.out hg5))
    clear hc5 hg5
    go_wp2
    go_ret2
    exact ⟨_, xs, t, rfl, XE.out, XL.out, by omega, R5.out, B.out⟩
  | false =>
    go_wp2_with fail
    refine (pick_calls w.heap.size _ 4 8 _ C2.out (by omega) (by omega) (by omega)).mono ?_
    rintro e w3 ⟨q, hq, rfl, hc3, hg3⟩
    have C3 := hide hc3
    have G3 := hide (grown_trans G2.out hg3)
    clear hc3 hg3
    go_wp2_with fail
    obtain ⟨N, hN⟩ : ∃ N : Nat, N = 1 + q := ⟨_, rfl⟩
    rw [show (1 : Int) + (q : Int) = (N : Int) by omega]
    refine (elements_calls w.heap.size _ 6 N _ C3.out (by omega) (by omega) (fun w' hb => LO.out w' ((grown_low G3.out (by simp)).trans hb))).mono ?_
    rintro e w4 ⟨v4, xs, rfl, hl, he, ho, hc4, hg4⟩
    have R := hide ho.rd
    have B := hide (cur_below (grown_trans G3.out hg4))
    have XL : Hid (xs.length ≤ 24) := by show xs.length ≤ 24; omega
    have XE := hide he
    clear ho hc4 hg4 hl he hN
    go_wp2
    go_ret2
    exact ⟨_, xs, 1 + p, rfl, XE.out, XL.out, by omega, R.out, B.out⟩
end Go.Proofs.YtogopakmebiomaaDoor

namespace Go.Proofs.YtogopakmebiomaaDoor
open Go.RowKit
open Gf (wdOk wOk)

set_option maxRecDepth 100000 in
set_option maxHeartbeats 3200000 in
theorem drawWrongPlaces_calls (cv : Value) (w : World) (h : RdB w cv) :
    Calls Tryd.prog 37 #[cv] w fun e w' => ∃ (v u : Value) (xs ys : List Int), e = .returned (.tuple #[v, u]) ∧ Rd w' v xs ∧ Rd w' u ys ∧ xs.length ≤ 25 ∧ ys.length ≤ 25 ∧ Below w.heap.size w w' := by
  have C0 := hide (cur_new h)
  have LO := hide (draw_low h)
  obtain ⟨a0, cap0, zs0, rfl, _⟩ := h
  obtain ⟨cv, hcv⟩ : ∃ cv, cv = Value.slice a0 zs0.length cap0 := ⟨_, rfl⟩
  have CW : Hid (CurS (w.alloc (.cells #[Value.slice a0 zs0.length cap0, .int .i64 0, .int .u64 0] 89)) w.heap.size cv 0) := by rw [hcv]; exact C0.out
  have LW : Hid (∀ w', Below w.heap.size (w.alloc (.cells #[Value.slice a0 zs0.length cap0, .int .i64 0, .int .u64 0] 89)) w' → RdB w' cv) := by rw [hcv]; exact LO.out
  clear hcv C0 LO
  go_enter Tryd.func37, Tryd.ntmps37
  go_wp2_with fail
  refine (spoiltWord_calls w.heap.size _ 0 _ CW.out (by omega) (fun w' hb => LW.out w' hb)).mono ?_
  rintro e w1 ⟨v1, xs, t, rfl, hwd, ht, ho1, hc1, hg1⟩
  have C1 := hide hc1
  have G1 := hide hg1
  have O1 := hide ho1
  have lt1 := curS_lt hc1
  have s1 := hg1.size
  have s1' : w.heap.size + 1 ≤ w1.heap.size := by simpa using s1
  obtain ⟨q1, q2, q3, q4⟩ := Gf.wdOk_yes hwd
  have q5 := (Gf.wOk_iff.1 q1).1
  have hx1 : 1 ≤ xs.length := by omega
  have hx24 : xs.length ≤ 24 := q3
  obtain ⟨a1, c1, hv1, _, _, _⟩ := ho1.rd
  subst hv1
  clear hc1 hg1 ho1 hwd q1 q2 q3 q4 q5 s1
  have OO : Hid ((w1.alloc (.cells #[] 3)).ownsRow w1.heap.size 3 1 (.slice (some ⟨w1.heap.size, 0, none⟩) 0 0) 0 (([] : List Int).map (Value.int .i64))) := World.ownsRow_lit w1 #[] 0 (Nat.le_refl _) (by decide) (by rfl)
  have PP := hide (O1.out.rd.below ((Below.refl w1.heap.size w1).alloc (Nat.le_refl _) (.cells #[] 3)))
  go_wp2_with (at_builtin; refine wpList_append_rd rfl (.tmp 17) (.tmp 18) rfl w1.heap.size _ 0 [] xs rfl OO.out _ rfl PP.out (by omega) (by simp) ?_)
  intro v2 w2 ho2 hg2
  have hb2 : Below w1.heap.size w1 w2 := ((Below.refl w1.heap.size w1).alloc (Nat.le_refl _) _).grown hg2 (by simp) (fun i hi => by cases hi; exact Nat.le_refl _)
  have ho2 : Own w2 w1.heap.size v2 xs := ho2
  have G2 := hide (grown_trans G1.out (grown_of_below hb2 (some w.heap.size)))
  have C2 := hide (CurS.keptW C1.out hb2 (fun w' h' => LW.out w' (grown_low (grown_trans G2.out h') (by simp))))
  have O12 := hide (O1.out.below hb2)
  have s2 := hb2.size
  obtain ⟨g2, c2, hv2, hq1, hq2, _⟩ := Gf.Own.open ho2 (by omega)
  subst hv2
  have O2 := hide ho2
  have far1 : Hid (∀ k, (Value.slice a1 xs.length c1).ownBlock = some k → k < w1.heap.size) := fun k hk => (O1.out.lt k hk).2
  clear hb2 hg2 ho2 OO PP C1
  go_wp2_with fail
  refine (pick_calls w.heap.size _ 1000 4 _ C2.out (by omega) (by omega) (by omega)).mono ?_
  rintro e w3 ⟨m, hm, rfl, hc3, hg3⟩
  have C3 := hide hc3
  have G3 := hide (grown_trans G2.out hg3)
  have O3 := hide (own_keep O2.out hg3 (by omega))
  have O13 := hide (own_keep O12.out hg3 (by simp))
  clear hc3 hg3
  go_wp2
  go_loopw [8] (fun vn wr => ∃ (r : Nat) (ys : List Int), vn = .int .i64 r ∧ r ≤ 3 ∧ ys.length = xs.length ∧ wr.ownsRow w1.heap.size 3 1 (.slice (some ⟨g2, 0, none⟩) xs.length c2) xs.length (ys.map (Value.int .i64)) ∧ Own wr (w.alloc (.cells #[Value.slice a0 zs0.length cap0, .int .i64 0, .int .u64 0] 89)).heap.size (.slice a1 xs.length c1) xs ∧ CurS wr w.heap.size cv (1100 - 4 * r) ∧ (w.alloc (.cells #[Value.slice a0 zs0.length cap0, .int .i64 0, .int .u64 0] 89)).grownBy wr (some w.heap.size)) (fun vn _ => (intOf vn).toNat)
  case atStart => exact ⟨m, xs, rfl, by omega, rfl, O3.out, O13.out, C3.out.mono (by omega), G3.out⟩
  case round =>
    obtain ⟨r, ys, rfl, hr3, hyl, ho, hox, hc, hg⟩ := hrel
    have O := hide ho
    have OX := hide hox
    have C := hide hc
    have G := hide hg
    have YL := hide hyl
    clear ho hc hg hyl hox
    have x0 : (0 : Int) < (xs.length : Int) := by omega
    by_cases hr : 0 < r
    · have hr' : (0 : Int) < (r : Int) := by omega
      go_wp2_with fail
      refine (pick_calls w.heap.size _ (1100 - 4 * r) xs.length _ C.out (by omega) (by omega) (by omega)).mono ?_
      rintro e w6 ⟨i, hi, rfl, hc6, hg6⟩
      have C6 := hide hc6
      have G6 := hide (grown_trans G.out hg6)
      have O6 : Hid (w6.ownsRow w1.heap.size 3 1 (.slice (some ⟨g2, 0, none⟩) xs.length c2) xs.length (ys.map (Value.int .i64))) := O.out.kept hg6 (.inr (by simp [Value.ownBlock]; omega))
      have OX6 := hide (own_keep OX.out hg6 (by simp))
      clear hc6 hg6
      go_wp2_with fail
      refine (pick_calls w.heap.size _ (1100 - 4 * r + 2) 256 _ C6.out (by omega) (by omega) (by omega)).mono ?_
      rintro e w7 ⟨z, hz, rfl, hc7, hg7⟩
      have G7 := hide (grown_trans G6.out hg7)
      have C7 := hide hc7
      have O7 : Hid (w7.ownsRow w1.heap.size 3 1 (.slice (some ⟨g2, 0, none⟩) xs.length c2) xs.length (ys.map (Value.int .i64))) := O6.out.kept hg7 (.inr (by simp [Value.ownBlock]; omega))
      have OX7 := hide (own_keep OX6.out hg7 (by simp))
      have hcf := O7.out.frozenAt i
      obtain ⟨old, hcc⟩ : ∃ old, w7.cell? ⟨g2, i, none⟩ = some old := by
        rw [O7.out.cellAt i (by omega)]
        exact ⟨_, List.getElem?_eq_getElem (by rw [List.length_map, YL.out]; exact hi)⟩
      have K := hide (O7.out.stored i (.int .i64 (z : Int)))
      have i2 : (i : Int) < (xs.length : Int) := by omega
      clear hc7 hg7
      go_wp2
      go_roundw
      case rel =>
        have hk2 := K.out
        have hgf : (w.alloc (.cells #[Value.slice a0 zs0.length cap0, .int .i64 0, .int .u64 0] 89)).grownBy (w7.setCell ⟨g2, i, none⟩ (.int .i64 (z : Int))) (some w.heap.size) := grown_far G7.out hk2.2 (fun j hj => by cases hj; simp; omega)
        refine ⟨r - 1, ys.set i (z : Int), Gf.int_eq (by omega), by omega, by rw [List.length_set, YL.out], ?_, ?_, ?_, hgf⟩
        · have := hk2.1
          rw [← List.map_set] at this
          exact this
        · refine World.ownsRow.kept OX7.out hk2.2 ?_
          right
          intro e
          have := far1.out g2 e
          omega
        · exact (CurS.far C7.out hk2.2 (fun j hj => by cases hj; omega) (fun w' h' => LW.out w' (grown_low (grown_trans hgf h') (by simp)))).mono (by omega)
      case measure => simp [intOf]; omega
    · obtain rfl : r = 0 := by omega
      go_wp2_with fail
      refine (one_calls w.heap.size _ 1100 20 _ C.out (by omega) (by omega) (by omega)).mono ?_
      rintro e w8 ⟨b, rfl, hc8, hg8⟩
      have G8 := hide (grown_trans G.out hg8)
      have O8 : Hid (Own w8 w1.heap.size (.slice (some ⟨g2, 0, none⟩) xs.length c2) ys) := by
        show World.ownsRow _ _ _ _ _ ys.length _
        rw [YL.out]
        exact O.out.kept hg8 (.inr (by simp [Value.ownBlock]; omega))
      have OX8 := hide (own_keep OX.out hg8 (by simp))
      have s8 := G8.out.size
      have s8' : w1.heap.size ≤ w8.heap.size := by have := (O8.out.lt g2 rfl).2; omega
      clear hc8 hg8
      cases b with
      | false =>
        have B := hide (cur_below G8.out)
        go_wp2
        go_ret2
        exact ⟨_, _, xs, ys, rfl, OX8.out.rd, O8.out.rd, by omega, by rw [YL.out]; omega, B.out⟩
      | true =>
        have O8r : Hid (w8.ownsRow w1.heap.size 3 1 (.slice (some ⟨g2, 0, none⟩) xs.length c2) xs.length (ys.map (Value.int .i64))) := by
          have := O8.out
          unfold Own at this
          rwa [YL.out] at this
        have A8 := hide (O8r.out.alloc (.cells #[.int .i64 1] 3))
        go_wp2_with (at_builtin; refine wpList_append_rd rfl (.tmp 41) (.tmp 42) rfl w1.heap.size _ xs.length ys [1] rfl A8.out _ rfl rd_single (by simp; omega) (by simp; omega) ?_)
        intro v9 w9 ho9 hg9
        have hg9' : w8.grownBy w9 (some g2) := Gf.grownBy_trans (World.grownBy_alloc _ _ _) hg9
        have B := hide (cur_below (grown_far G8.out hg9' (fun j hj => by cases hj; simp; omega)))
        have RX9 : Hid (Rd w9 (.slice a1 xs.length c1) xs) := Own.rd (World.ownsRow.kept OX8.out hg9' (.inr (fun e => by have := far1.out g2 e; omega)))
        have R9 := hide ho9.rd
        have L9 : Hid ((ys ++ [1]).length ≤ 25) := by show (ys ++ [1]).length ≤ 25; rw [List.length_append, YL.out]; simp; omega
        clear ho9 hg9 hg9'
        go_wp2
        go_ret2
        exact ⟨_, _, xs, ys ++ [1], rfl, RX9.out, R9.out, by omega, L9.out, B.out⟩
end Go.Proofs.YtogopakmebiomaaDoor

namespace Go.Proofs.YtogopakmebiomaaDoor
open Go.RowKit
open Gf (ci nat AllLt p2 vs px sp fn ev evn pow wdOk isB)

theorem rd_dropL {w : World} {b off n cap : Nat} {xs : List Int} (h : Rd w (.slice (some ⟨b, off, none⟩) n cap) xs) (p : Nat) (hp : p < xs.length) : Rd w (.slice (some ⟨b, off + p, none⟩) (n - p) (cap - p)) (xs.drop p) := by
  obtain ⟨a', cap', hv, h1, h2, h3⟩ := h
  simp only [Value.slice.injEq] at hv
  obtain ⟨rfl, rfl, rfl⟩ := hv
  have hl : (xs.drop p).length = xs.length - p := List.length_drop
  refine ⟨_, cap - p, by rw [hl], by rw [hl]; omega, ⟨by have := h2.1; omega, fun h => by cases h⟩, ?_⟩
  rcases h3 with h3 | ⟨b', off', he, hlt, hc⟩
  · subst h3; simp at hp
  · simp only [Option.some.injEq, Addr.mk.injEq, and_true] at he
    obtain ⟨rfl, rfl⟩ := he
    refine .inr ⟨b, off + p, rfl, hlt, fun i hi => ?_⟩
    rw [hl] at hi
    have := hc (p + i) (by omega)
    rw [← Nat.add_assoc] at this
    rw [this]
    simp [List.getD_eq_getElem?_getD]
def msgL (xs : List Int) (t d : Nat) : List Int := (xs.drop (2 * t)).set 0 ((at_ xs (2 * t) ^^^ d : Nat) : Int)
theorem locs_far {xs : List Int} {t d : Nat} (hw : wdOk xs t = true) (hb : isB xs t = true) (hd1 : 1 ≤ d) (hd : d < 256) :
    Gf.encW (msgL xs t d) t = (Gf.wordW (msgL xs t d) t, true) ∧ (Gf.wordW (msgL xs t d) t).length = xs.length ∧ 2 * t < (unpN (Gf.wordW (msgL xs t d) t) xs (Gf.wordW (msgL xs t d) t).length).length := by
  obtain ⟨h1, h2, h3, h4⟩ := Gf.wdOk_yes hw
  obtain ⟨q1, q3⟩ := Gf.wOk_iff.1 h1
  have hml : (msgL xs t d).length = xs.length - 2 * t := by simp [msgL]
  have hX := at_lt h4 (2 * t)
  have hXd := Gf.xor_lt hX hd
  have hme : (msgL xs t d).all Gf.elOk = true := by
    unfold msgL
    refine all_setE ?_ hXd
    rw [List.all_eq_true]
    intro x hx
    exact List.all_eq_true.1 h4 x (List.mem_of_mem_drop hx)
  have hok : Gf.meOk (msgL xs t d) t = true := Gf.meOk_mk h1 (by omega) (by omega) hme
  have hwl := Gf.wordW_length (n := t) (by omega) hme (by omega)
  have hwl' : (Gf.wordW (msgL xs t d) t).length = xs.length := by omega
  have hwe := wordW_el (n := t) (by omega) hme (by omega)
  refine ⟨by have := Gf.encW_yes hok; rwa [Int.toNat_natCast] at this, hwl', ?_⟩
  by_cases hfew : (unpN (Gf.wordW (msgL xs t d) t) xs (Gf.wordW (msgL xs t d) t).length).length ≤ 2 * t
  · exfalso
    have h0 := far_apart hwe h4 hwl' (by omega) (m := 2 * t) (by omega) (fun k hk => by rw [word_syn (by omega) hme (by omega) hk hwe, isB_at hb hk]) hfew
    have hne : (Gf.wordW (msgL xs t d) t).getD (2 * t) 0 ≠ xs.getD (2 * t) 0 := by
      have e1 : (Gf.wordW (msgL xs t d) t).getD (2 * t) 0 = ((at_ xs (2 * t) ^^^ d : Nat) : Int) := by
        unfold Gf.wordW
        have := Gf.rest_len (n := t) (by omega) hme (by omega)
        rw [getD_spl, if_neg (by omega)]
        unfold Gf.rawW
        rw [List.getD_eq_getElem?_getD, List.getElem?_append_right (by rw [List.length_replicate]; omega), List.length_replicate, Nat.sub_self]
        unfold msgL
        rw [List.getElem?_set_self (by rw [List.length_drop]; omega)]
        rfl
      rw [e1]
      intro e
      have e2 := at_eq xs (2 * t)
      rw [← e, Int.toNat_natCast] at e2
      have e3 : at_ xs (2 * t) ^^^ (at_ xs (2 * t) ^^^ d) = 0 := by rw [← e2, Nat.xor_self]
      rw [← Nat.xor_assoc, Nat.xor_self, Nat.zero_xor] at e3
      omega
    have := unpN_mem (Gf.wordW (msgL xs t d) t) xs (Gf.wordW (msgL xs t d) t).length (2 * t) (by omega) hne
    omega
  · omega
theorem loc_head {xs : List Int} (h : (Gf.locR xs).2 = true) : 1 ≤ (Gf.locR xs).1.length ∧ (Gf.locR xs).1.getD 0 0 = 1 := by
  cases hok : Gf.locOk xs with
  | false => rw [Gf.locR_no hok] at h; cases h
  | true =>
    rw [Gf.locR_yes hok]
    obtain ⟨h1, h2⟩ := Gf.locOk_yes hok
    have hsn := Gf.nat_lt h2
    have hinv := Gf.bm_inv hsn (nat xs).length (Nat.le_refl _)
    have e : Gf.fn (Gf.locN (nat xs)) 0 = 1 := by
      unfold Gf.locN
      rw [Gf.cutNl_fn, hinv.one]
    constructor
    · show 1 ≤ (ci (Gf.locN (nat xs))).length
      rw [Gf.ci_length]
      by_cases h0 : (Gf.locN (nat xs)).length = 0
      · rw [Gf.fn_far (by omega)] at e; cases e
      · omega
    · show (ci (Gf.locN (nat xs))).getD 0 0 = 1
      rw [Gf.ci_getD]
      unfold Gf.fn at e
      rw [e]
      rfl
end Go.Proofs.YtogopakmebiomaaDoor

namespace Go.Proofs.YtogopakmebiomaaDoor
open Go.RowKit
open Gf (ci nat wdOk isB)

def RdBz (w : World) (a : Option Addr) (zs : List Nat) : Prop :=
  zs.length ≤ 281474976710656 ∧ Gf.AllLt zs ∧ (zs = [] ∨ ∃ b off, a = some ⟨b, off, none⟩ ∧ b < w.heap.size ∧ ∀ i, i < zs.length → w.cell? ⟨b, off + i, none⟩ = some (.int .u8 (zs.getD i 0 : Nat)))
theorem RdBz.below {w w' : World} {a : Option Addr} {zs : List Nat} (h : RdBz w a zs) (hb : Below w.heap.size w w') : RdBz w' a zs := by
  obtain ⟨h1, h2, h3⟩ := h
  refine ⟨h1, h2, ?_⟩
  rcases h3 with h3 | ⟨b, off, rfl, hlt, hc⟩
  · exact .inl h3
  · exact .inr ⟨b, off, rfl, Nat.lt_of_lt_of_le hlt hb.size, fun i hi => (hb.cell (p := ⟨b, off + i, none⟩) hlt).trans (hc i hi)⟩
theorem RdBz.rdb {w : World} {a : Option Addr} {zs : List Nat} (h : RdBz w a zs) (cap : Nat) : RdB w (.slice a zs.length cap) := ⟨a, cap, zs, rfl, h.1, h.2.1, h.2.2⟩
theorem RdBz.drewN {w : World} {a : Option Addr} {zs : List Nat} (h : RdBz w a zs) (n : Nat) : RdBz (w.drewN n) a zs := h.below (below_drewN' n)
def nbTo (zs : List Nat) : Nat → Nat
  | 0 => 0
  | k + 1 => (31 * nbTo zs k + zs.getD k 0) % 1000003
theorem nbTo_lt (zs : List Nat) (k : Nat) : nbTo zs k < 1000003 := by
  cases k with
  | zero => show 0 < _; omega
  | succ k => rw [nbTo]; omega
set_option maxRecDepth 100000 in
set_option maxHeartbeats 800000 in
theorem numberZ_calls (a : Option Addr) (cap : Nat) (zs : List Nat) (w : World) (h : RdBz w a zs) :
    Calls Tryd.prog 31 #[.slice a zs.length cap] w fun e w' => e = .returned (.int .i64 (nbTo zs zs.length : Nat)) ∧ w = w' := by
  obtain ⟨h1, h2, h3⟩ := h
  have H := hide h3
  clear h3
  go_enter Tryd.func31, Tryd.ntmps31
  go_wp2
  go_loop [3, 8] (fun vn vi => ∃ k n : Nat, k ≤ zs.length ∧ vi = .int .i64 k ∧ vn = .int .i64 n ∧ n = nbTo zs k) (fun _ vi => zs.length - (intOf vi).toNat)
  case atStart => exact ⟨0, 0, Nat.zero_le _, rfl, rfl, rfl⟩
  case round =>
    obtain ⟨k, n, hk, rfl, rfl, hn⟩ := hrel
    have n1 : n < 1000003 := by rw [hn]; exact nbTo_lt _ _
    have HN := hide hn
    clear hn
    by_cases hlt : k < zs.length
    · rcases H.out with h3 | ⟨b, off, rfl, hbs, hc⟩
      · subst h3; simp at hlt
      have hc1 := hc k hlt
      clear hc
      obtain ⟨z, hz⟩ : ∃ z, z = zs.getD k 0 := ⟨_, rfl⟩
      have hz256 : z < 256 := by rw [hz]; exact h2 k
      rw [← hz] at hc1
      have HZ := hide hz
      clear hz
      go_wp2
      go_round
      case rel => exact ⟨k + 1, (31 * n + z) % 1000003, by omega, by go_num, Gf.int_eq (by simp), by rw [nbTo, ← HN.out, ← HZ.out]⟩
      case measure => simp [intOf]; omega
    · obtain rfl : k = zs.length := by omega
      go_wp2
      go_ret
      exact ⟨by rw [← HN.out]; rfl, rfl⟩
theorem word_drop {xs : List Int} {n : Nat} (hn : n ≤ 3) (he : xs.all Gf.elOk = true) (hl : xs.length ≤ 24) : (Gf.wordW xs n).drop (2 * n) = xs := by
  have h1 := Gf.wordW_length (n := n) hn he hl
  have h2 := Gf.rest_len (n := n) hn he hl
  refine Gf.ext_getD 0 (by rw [List.length_drop, h1]; omega) (fun i hi => ?_)
  rw [List.length_drop, h1] at hi
  rw [List.getD_eq_getElem?_getD, List.getElem?_drop, ← List.getD_eq_getElem?_getD]
  unfold Gf.wordW
  rw [getD_spl, if_neg (by omega)]
  unfold Gf.rawW
  rw [List.getD_eq_getElem?_getD, List.getElem?_append_right (by rw [List.length_replicate]; omega), List.length_replicate, Nat.add_sub_cancel_left, List.getD_eq_getElem?_getD]
/-- What the word of a message is. -/
theorem enc_facts {xs : List Int} {t : Nat} (h : (Gf.encW xs t).2 = true) : ∃ W : List Int, Gf.encW xs t = (W, true) ∧ wdOk W t = true ∧ isB W t = true ∧ Gf.isWR W t = (true, true) ∧ W.length = xs.length + 2 * t ∧ W.drop (2 * t) = xs ∧ (1 ≤ t ∧ t ≤ 3) ∧ 1 ≤ xs.length := by
  cases hm : Gf.meOk xs t with
  | false => rw [Gf.encW_no hm] at h; cases h
  | true =>
    obtain ⟨h1, h2, h3, h4⟩ := Gf.meOk_yes hm
    obtain ⟨q1, q3⟩ := Gf.wOk_iff.1 h1
    have e := Gf.encW_yes hm
    rw [Int.toNat_natCast] at e
    have hl := Gf.wordW_length (n := t) (by omega) h4 (by omega)
    have hel := wordW_el (n := t) (by omega) h4 (by omega)
    have hwd : wdOk (Gf.wordW xs t) t = true := Gf.wdOk_mk h1 (by omega) (by omega) hel
    have hib := isB_of (n := t) (fun k hk => word_syn (by omega) h4 (by omega) hk hel)
    refine ⟨_, e, hwd, hib, ?_, by omega, word_drop (by omega) h4 (by omega), by omega, h2⟩
    unfold Gf.isWR
    rw [hwd, hib]
    rfl
end Go.Proofs.YtogopakmebiomaaDoor

namespace Go.Proofs.YtogopakmebiomaaDoor
open Go.RowKit
open Gf (ci nat AllLt synI locN plcN isB wdOk wOk rtR nought)

set_option maxRecDepth 100000 in
set_option maxHeartbeats 6400000 in
theorem decodeWord_calls (v : Value) (xs : List Int) (t : Int) (w : World) (hT : Gf.Tab w) (h : Rd w v xs) :
    Calls Tryd.prog 28 #[v, .int .i64 t] w fun e w' => ∃ v', e = .returned (.tuple #[v', .int .i64 (decW xs t).2.1, .bool (decW xs t).2.2]) ∧ Own w' w.heap.size v' (decW xs t).1 ∧ Below w.heap.size w w' := by
  have T := hide hT
  have R := hide h
  obtain ⟨a, cap, rfl, _, _, _⟩ := h
  cases hw : wdOk xs t with
  | false =>
    rw [decW_bad hw]
    have G := hide (Gf.synR_no hw)
    clear hT hw
    go_enter Tryd.func28, Tryd.ntmps28
    go_wp2_with fail
    refine (Gf.syndromesOf_calls _ xs t _ T.out R.out).mono ?_
    rw [G.out]
    rintro e w1 ⟨v1, rfl, ho1, hb1⟩
    have B1 := hide hb1
    clear ho1 hb1
    go_wp2
    go_ret3
    exact ⟨_, rfl, Gf.own_nil _ _, B1.out⟩
  | true =>
    obtain ⟨n, f⟩ := wd_facts hw
    obtain rfl := f.nt
    have F := hide f
    have G : Hid (Gf.synR xs n = (synI xs (2 * n), true)) := by
      have := Gf.synR_yes hw
      rwa [Int.toNat_natCast] at this
    have n1 := f.n1
    have n3 := f.n3
    have hlen := f.len
    obtain ⟨s, hs⟩ : ∃ s, s = synI xs (2 * n) := ⟨_, rfl⟩
    have HS := hide hs
    have IB : Hid (isB xs n = s.all nought) := by
      rw [hs]
      show (synI xs (2 * (n : Int).toNat)).all nought = _
      rw [Int.toNat_natCast]
    rw [← hs] at G
    cases hi : isB xs n with
    | true =>
      rw [decW_is hw hi]
      rw [hi] at IB
      clear hT hw f hs hi
      go_enter Tryd.func28, Tryd.ntmps28
      go_wp2_with fail
      refine (Gf.syndromesOf_calls _ xs _ _ T.out R.out).mono ?_
      rw [G.out]
      rintro e w1 ⟨v1, rfl, ho1, hb1⟩
      have R1 := hide ho1.rd
      have B1 := hide hb1
      clear ho1 hb1
      go_wp2_with fail
      refine (Gf.allNought_calls _ s _ R1.out).mono ?_
      rw [← IB.out]
      rintro e w' ⟨rfl, rfl⟩
      go_wp2_with fail
      refine (copyList_calls _ xs _ (R.out.below B1.out) (by omega)).mono ?_
      rintro e w2 ⟨v2, rfl, ho2, hb2⟩
      have O2 := hide (ho2.mono B1.out.size)
      have B2 := hide (B1.out.trans (hb2.mono B1.out.size))
      clear ho2 hb2
      go_wp2
      go_ret3
      exact ⟨_, rfl, O2.out, B2.out⟩
    | false =>
      rw [hi] at IB
      obtain ⟨c, hc⟩ : ∃ c, c = locC xs n := ⟨_, rfl⟩
      have LO : Hid (Gf.locR s = (c, true)) := by rw [hs, hc]; exact f.loc
      have CG : Hid (Gf.goodP c = true) := by rw [hc]; exact f.cg
      have C1 : Hid (1 ≤ c.length) := by rw [hc]; exact f.c1
      obtain ⟨ps, hps⟩ : ∃ ps, ps = plcW xs n := ⟨_, rfl⟩
      have hpc : plcN c xs.length = ps := by rw [hps, hc]; rfl
      have hpok := plcN_ok c xs.length hlen
      rw [hpc] at hpok
      have hple := Gf.plcN_le c xs.length
      rw [hpc] at hple
      have HDC := hide hw
      have HDI := hide hi
      by_cases hrt : ps.length = c.length - 1
      · have RT : Hid (rtR c xs.length = (ps, true)) := by
          show rtR c xs.length = (ps, true)
          unfold Gf.rtR
          rw [hpc, if_pos hrt]
        by_cases hp1 : 1 ≤ ps.length
        · by_cases hp2 : ps.length ≤ n
          · have hplok : plOkW xs n = true := by
              unfold plOkW
              rw [← hps, ← hc]
              exact decide_eq_true ⟨hrt, hp1, by omega⟩
            obtain ⟨out, hout⟩ : ∃ o, o = outW xs n := ⟨_, rfl⟩
            have HOUT : Hid (fixW xs ps s = out) := by
              rw [hout]
              show _ = fixW xs (plcW xs n) (synI xs (2 * (n : Int).toNat))
              rw [Int.toNat_natCast, ← hs, ← hps]
            have OE : Hid (out.all Gf.elOk = true) := by rw [hout]; exact outW_el f hplok
            have OL : Hid (out.length = xs.length) := by rw [hout]; exact outW_len xs n
            have OW : Hid (wdOk out n = true) := by
              obtain ⟨q1, q2, q3, q4⟩ := Gf.wdOk_yes hw
              refine Gf.wdOk_mk q1 (by rw [OL.out]; exact q2) (by rw [OL.out]; exact q3) OE.out
            have PK := hide hpok.1
            have PIN := hide hpok.2
            have EL := hide f.el
            have SEL : Hid (s.all Gf.elOk = true) := by rw [hs]; exact f.sel
            have hsl : ps.length ≤ s.length := by rw [hs, f.sl]; omega
            have HSL := hide hsl
            have YES : Hid (isB out n = true → decW xs n = (out, ((unpN xs out xs.length).length : Int), true)) := fun h4 => by
              rw [hout] at h4 ⊢
              exact decW_yes hw hi hplok h4
            have NOT : Hid (isB out n = false → decW xs n = ([], 0, false)) := fun h4 => by
              rw [hout] at h4
              exact decW_not hw hi hplok h4
            have hp1' : ¬ (ps.length : Int) < 1 := by omega
            have hp2' : ¬ (n : Int) < (ps.length : Int) := by omega
            have hp3 : ps.length ≤ 3 := by omega
            clear hT hw f hs hi hc hps hpc hpok hrt hplok hout hsl
            cases hio : isB out n with
            | true =>
              rw [YES.out hio]
              have IO : Hid (Gf.isWR out n = (true, true)) := by
                unfold Gf.isWR
                rw [OW.out, hio]
                exact hide rfl
              have WP : Hid (wrpR xs out = (unpN xs out xs.length, true)) := if_pos ⟨OL.out.symm, hlen⟩
              have hun := unpN_length xs out xs.length
              obtain ⟨ul, hul⟩ : ∃ u, u = unpN xs out xs.length := ⟨_, rfl⟩
              rw [← hul] at WP hun ⊢
              clear hio hul
              go_enter Tryd.func28, Tryd.ntmps28
              go_wp2_with fail
              refine (Gf.syndromesOf_calls _ xs _ _ T.out R.out).mono ?_
              rw [G.out]
              rintro e w1 ⟨v1, rfl, ho1, hb1⟩
              have R1 := hide ho1.rd
              have B1 := hide hb1
              clear ho1 hb1
              go_wp2_with fail
              refine (Gf.allNought_calls _ s _ R1.out).mono ?_
              rw [← IB.out]
              rintro e w' ⟨rfl, rfl⟩
              go_wp2_with fail
              refine (Gf.locatorOf_calls _ s _ (T.out.below B1.out) R1.out).mono ?_
              rw [LO.out]
              rintro e w2 ⟨v2, rfl, ho2, hb2⟩
              have R2 := hide ho2.rd
              have R12 := hide (R1.out.below hb2)
              have B2 := hide (B1.out.trans (hb2.mono B1.out.size))
              clear ho2 hb2
              go_wp2_with fail
              refine (Gf.rootPlaces_calls _ c xs.length _ (T.out.below B2.out) R2.out CG.out C1.out hlen).mono ?_
              rw [RT.out]
              rintro e w3 ⟨v3, rfl, ho3, hb3⟩
              have R3 := hide ho3.rd
              have R13 := hide (R12.out.below hb3)
              have B3 := hide (B2.out.trans (hb3.mono B2.out.size))
              obtain ⟨pa, pc, hv3, _, _, _⟩ := ho3.rd
              subst hv3
              clear ho3 hb3
              go_wp2_with fail
              refine (putRight_calls _ _ _ xs ps s _ (T.out.below B3.out) (R.out.below B3.out) R3.out R13.out EL.out SEL.out PK.out PIN.out hp1 hp3 HSL.out hlen).mono ?_
              rw [HOUT.out]
              rintro e w4 ⟨v4, rfl, ho4, hb4⟩
              have O4 := hide (ho4.mono B3.out.size)
              have B4 := hide (B3.out.trans (hb4.mono B3.out.size))
              clear ho4 hb4
              go_wp2_with fail
              refine (Gf.isWord_calls _ out _ _ (T.out.below B4.out) O4.out.rd).mono ?_
              rw [IO.out]
              rintro e w5 ⟨rfl, hb5⟩
              have O5 := hide (O4.out.below hb5)
              have B5 := hide (B4.out.trans (hb5.mono B4.out.size))
              clear hb5
              go_wp2_with fail
              refine (wrongPlaces_calls _ _ xs out _ (R.out.below B5.out) O5.out.rd).mono ?_
              rw [WP.out]
              rintro e w6 ⟨v6, rfl, ho6, hb6⟩
              have O6 := hide (O5.out.below hb6)
              have B6 := hide (B5.out.trans (hb6.mono B5.out.size))
              obtain ⟨ua, uc, hv6, _, _, _⟩ := ho6.rd
              subst hv6
              clear ho6 hb6
              go_wp2
              go_ret3
              exact ⟨_, rfl, O6.out, B6.out⟩
            | false =>
              rw [NOT.out hio]
              have IO : Hid (Gf.isWR out n = (false, true)) := by
                unfold Gf.isWR
                rw [OW.out, hio]
                exact hide rfl
              clear hio
              go_enter Tryd.func28, Tryd.ntmps28
              go_wp2_with fail
              refine (Gf.syndromesOf_calls _ xs _ _ T.out R.out).mono ?_
              rw [G.out]
              rintro e w1 ⟨v1, rfl, ho1, hb1⟩
              have R1 := hide ho1.rd
              have B1 := hide hb1
              clear ho1 hb1
              go_wp2_with fail
              refine (Gf.allNought_calls _ s _ R1.out).mono ?_
              rw [← IB.out]
              rintro e w' ⟨rfl, rfl⟩
              go_wp2_with fail
              refine (Gf.locatorOf_calls _ s _ (T.out.below B1.out) R1.out).mono ?_
              rw [LO.out]
              rintro e w2 ⟨v2, rfl, ho2, hb2⟩
              have R2 := hide ho2.rd
              have R12 := hide (R1.out.below hb2)
              have B2 := hide (B1.out.trans (hb2.mono B1.out.size))
              clear ho2 hb2
              go_wp2_with fail
              refine (Gf.rootPlaces_calls _ c xs.length _ (T.out.below B2.out) R2.out CG.out C1.out hlen).mono ?_
              rw [RT.out]
              rintro e w3 ⟨v3, rfl, ho3, hb3⟩
              have R3 := hide ho3.rd
              have R13 := hide (R12.out.below hb3)
              have B3 := hide (B2.out.trans (hb3.mono B2.out.size))
              obtain ⟨pa, pc, hv3, _, _, _⟩ := ho3.rd
              subst hv3
              clear ho3 hb3
              go_wp2_with fail
              refine (putRight_calls _ _ _ xs ps s _ (T.out.below B3.out) (R.out.below B3.out) R3.out R13.out EL.out SEL.out PK.out PIN.out hp1 hp3 HSL.out hlen).mono ?_
              rw [HOUT.out]
              rintro e w4 ⟨v4, rfl, ho4, hb4⟩
              have O4 := hide (ho4.mono B3.out.size)
              have B4 := hide (B3.out.trans (hb4.mono B3.out.size))
              clear ho4 hb4
              go_wp2_with fail
              refine (Gf.isWord_calls _ out _ _ (T.out.below B4.out) O4.out.rd).mono ?_
              rw [IO.out]
              rintro e w5 ⟨rfl, hb5⟩
              have B5 := hide (B4.out.trans (hb5.mono B4.out.size))
              clear hb5
              go_wp2
              go_ret3
              exact ⟨_, rfl, Gf.own_nil _ _, B5.out⟩
          · have hno : decW xs n = ([], 0, false) := decW_no hw hi (by unfold plOkW; rw [← hps, ← hc]; exact decide_eq_false (by omega))
            rw [hno]
            have hp1' : ¬ (ps.length : Int) < 1 := by omega
            have hp2' : (n : Int) < (ps.length : Int) := by omega
            clear hT hw f hs hi hc hps hpc hpok hrt hno
            go_enter Tryd.func28, Tryd.ntmps28
            go_wp2_with fail
            refine (Gf.syndromesOf_calls _ xs _ _ T.out R.out).mono ?_
            rw [G.out]
            rintro e w1 ⟨v1, rfl, ho1, hb1⟩
            have R1 := hide ho1.rd
            have B1 := hide hb1
            clear ho1 hb1
            go_wp2_with fail
            refine (Gf.allNought_calls _ s _ R1.out).mono ?_
            rw [← IB.out]
            rintro e w' ⟨rfl, rfl⟩
            go_wp2_with fail
            refine (Gf.locatorOf_calls _ s _ (T.out.below B1.out) R1.out).mono ?_
            rw [LO.out]
            rintro e w2 ⟨v2, rfl, ho2, hb2⟩
            have R2 := hide ho2.rd
            have B2 := hide (B1.out.trans (hb2.mono B1.out.size))
            clear ho2 hb2
            go_wp2_with fail
            refine (Gf.rootPlaces_calls _ c xs.length _ (T.out.below B2.out) R2.out CG.out C1.out hlen).mono ?_
            rw [RT.out]
            rintro e w3 ⟨v3, rfl, ho3, hb3⟩
            have B3 := hide (B2.out.trans (hb3.mono B2.out.size))
            obtain ⟨pa, pc, hv3, _, _, _⟩ := ho3.rd
            subst hv3
            clear ho3 hb3
            go_wp2
            go_ret3
            exact ⟨_, rfl, Gf.own_nil _ _, B3.out⟩
        · have hno : decW xs n = ([], 0, false) := decW_no hw hi (by unfold plOkW; rw [← hps, ← hc]; exact decide_eq_false (by omega))
          rw [hno]
          have hp1' : (ps.length : Int) < 1 := by omega
          clear hT hw f hs hi hc hps hpc hpok hrt hno
          go_enter Tryd.func28, Tryd.ntmps28
          go_wp2_with fail
          refine (Gf.syndromesOf_calls _ xs _ _ T.out R.out).mono ?_
          rw [G.out]
          rintro e w1 ⟨v1, rfl, ho1, hb1⟩
          have R1 := hide ho1.rd
          have B1 := hide hb1
          clear ho1 hb1
          go_wp2_with fail
          refine (Gf.allNought_calls _ s _ R1.out).mono ?_
          rw [← IB.out]
          rintro e w' ⟨rfl, rfl⟩
          go_wp2_with fail
          refine (Gf.locatorOf_calls _ s _ (T.out.below B1.out) R1.out).mono ?_
          rw [LO.out]
          rintro e w2 ⟨v2, rfl, ho2, hb2⟩
          have R2 := hide ho2.rd
          have B2 := hide (B1.out.trans (hb2.mono B1.out.size))
          clear ho2 hb2
          go_wp2_with fail
          refine (Gf.rootPlaces_calls _ c xs.length _ (T.out.below B2.out) R2.out CG.out C1.out hlen).mono ?_
          rw [RT.out]
          rintro e w3 ⟨v3, rfl, ho3, hb3⟩
          have B3 := hide (B2.out.trans (hb3.mono B2.out.size))
          obtain ⟨pa, pc, hv3, _, _, _⟩ := ho3.rd
          subst hv3
          clear ho3 hb3
          go_wp2
          go_ret3
          exact ⟨_, rfl, Gf.own_nil _ _, B3.out⟩
      · have RT : Hid (rtR c xs.length = ([], false)) := by
          show rtR c xs.length = ([], false)
          unfold Gf.rtR
          rw [hpc, if_neg hrt]
        have hno : decW xs n = ([], 0, false) := decW_no hw hi (by unfold plOkW; rw [← hps, ← hc]; exact decide_eq_false (by omega))
        rw [hno]
        clear hT hw f hs hi hc hps hpc hpok hrt hno
        go_enter Tryd.func28, Tryd.ntmps28
        go_wp2_with fail
        refine (Gf.syndromesOf_calls _ xs _ _ T.out R.out).mono ?_
        rw [G.out]
        rintro e w1 ⟨v1, rfl, ho1, hb1⟩
        have R1 := hide ho1.rd
        have B1 := hide hb1
        clear ho1 hb1
        go_wp2_with fail
        refine (Gf.allNought_calls _ s _ R1.out).mono ?_
        rw [← IB.out]
        rintro e w' ⟨rfl, rfl⟩
        go_wp2_with fail
        refine (Gf.locatorOf_calls _ s _ (T.out.below B1.out) R1.out).mono ?_
        rw [LO.out]
        rintro e w2 ⟨v2, rfl, ho2, hb2⟩
        have R2 := hide ho2.rd
        have B2 := hide (B1.out.trans (hb2.mono B1.out.size))
        clear ho2 hb2
        go_wp2_with fail
        refine (Gf.rootPlaces_calls _ c xs.length _ (T.out.below B2.out) R2.out CG.out C1.out hlen).mono ?_
        rw [RT.out]
        rintro e w3 ⟨v3, rfl, ho3, hb3⟩
        have B3 := hide (B2.out.trans (hb3.mono B2.out.size))
        clear ho3 hb3
        go_wp2
        go_ret3
        exact ⟨_, rfl, Gf.own_nil _ _, B3.out⟩
end Go.Proofs.YtogopakmebiomaaDoor

namespace Go.Proofs.YtogopakmebiomaaDoor
open Go.RowKit
open Gf (ci nat AllLt synI locN plcN isB wdOk wOk rtR nought)

set_option maxRecDepth 100000 in
set_option maxHeartbeats 6400000 in
theorem sDecodeWord_calls (v : Value) (xs : List Int) (t : Int) (w : World) (h : Rd w v xs) :
    Calls Tryd.prog 27 #[v, .int .i64 t] w fun e w' => ∃ v', e = .returned (.tuple #[v', .int .i64 (decW xs t).2.1, .bool (decW xs t).2.2]) ∧ Own w' w.heap.size v' (decW xs t).1 ∧ Below w.heap.size w w' := by
  have R := hide h
  obtain ⟨a, cap, rfl, _, _, _⟩ := h
  cases hw : wdOk xs t with
  | false =>
    rw [decW_bad hw]
    have G := hide hw
    clear hw
    go_enter Tryd.func27, Tryd.ntmps27
    go_wp2_with fail
    refine (Gf.l4Word_calls _ xs t _ R.out).mono ?_
    rw [G.out]
    rintro e w' ⟨rfl, rfl⟩
    go_wp2
    go_ret3
    exact ⟨_, rfl, Gf.own_nil _ _, Below.refl _ _⟩
  | true =>
    obtain ⟨n, f⟩ := wd_facts hw
    obtain rfl := f.nt
    have G := hide hw
    have EL := hide f.el
    have n1 := f.n1
    have n3 := f.n3
    have hlen := f.len
    obtain ⟨s, hs⟩ : ∃ s, s = synI xs (2 * n) := ⟨_, rfl⟩
    have HS := hide hs
    cases hi : isB xs n with
    | true =>
      rw [decW_is hw hi]
      have IB := hide hi
      clear hw f hs hi
      go_enter Tryd.func27, Tryd.ntmps27
      go_wp2_with fail
      refine (Gf.l4Word_calls _ xs _ _ R.out).mono ?_
      rw [G.out]
      rintro e w' ⟨rfl, rfl⟩
      go_wp2_with fail
      refine (Gf.l4Is_calls _ xs n _ R.out EL.out n3).mono ?_
      rw [IB.out]
      rintro e w1 ⟨rfl, hb1⟩
      have B1 := hide hb1
      clear hb1
      have OO : Hid ((w1.alloc (.cells #[] 3)).ownsRow w1.heap.size 3 1 (.slice (some ⟨w1.heap.size, 0, none⟩) 0 0) 0 (([] : List Int).map (Value.int .i64))) := World.ownsRow_lit w1 #[] 0 (Nat.le_refl _) (by decide) (by rfl)
      have PP := hide ((R.out.below B1.out).below ((Below.refl w1.heap.size w1).alloc (Nat.le_refl _) (.cells #[] 3)))
      go_wp2_with (at_builtin; refine wpList_append_rd rfl (.tmp 19) (.tmp 20) rfl w1.heap.size _ 0 [] xs rfl OO.out _ rfl PP.out (by omega) (by simp) ?_)
      intro v2 w2 ho2 hg2
      have hb2 : Below w1.heap.size w1 w2 := ((Below.refl w1.heap.size w1).alloc (Nat.le_refl _) _).grown hg2 (by simp) (fun i hi => by cases hi; exact Nat.le_refl _)
      have O2 : Hid (Own w2 w.heap.size v2 xs) := Own.mono (show Own w2 w1.heap.size v2 xs from ho2) B1.out.size
      have B2 := hide (B1.out.trans (hb2.mono B1.out.size))
      clear ho2 hg2 hb2
      go_wp2
      go_ret3
      exact ⟨_, rfl, O2.out, B2.out⟩
    | false =>
      have IB := hide hi
      obtain ⟨c, hc⟩ : ∃ c, c = locC xs n := ⟨_, rfl⟩
      have LO : Hid (ci (locN (nat s)) = c) := by
        rw [hs, hc]
        show _ = ci (locN (nat (synI xs (2 * (n : Int).toNat))))
        rw [Int.toNat_natCast]
      have CG : Hid (Gf.goodP c = true) := by rw [hc]; exact f.cg
      have c1 : 1 ≤ c.length := by rw [hc]; exact f.c1
      have c7 : c.length ≤ 7 := by rw [hc]; exact f.c7
      have SN : Hid (AllLt (nat s)) := by rw [hs]; exact f.sn
      have SC : Hid (ci (nat s) = s) := by rw [hs]; exact f.scn
      have SL6 : Hid ((nat s).length ≤ 6) := by show (nat s).length ≤ 6; rw [Gf.nat_length, hs, f.sl]; omega
      obtain ⟨ps, hps⟩ : ∃ ps, ps = plcW xs n := ⟨_, rfl⟩
      have hpc : plcN c xs.length = ps := by rw [hps, hc]; rfl
      have HPC := hide hpc
      have hpok := plcN_ok c xs.length hlen
      rw [hpc] at hpok
      have hple := Gf.plcN_le c xs.length
      rw [hpc] at hple
      by_cases hp1 : ps.length = 0
      · have hno : decW xs n = ([], 0, false) := decW_no hw hi (by unfold plOkW; rw [← hps, ← hc]; exact decide_eq_false (by omega))
        rw [hno]
        have t0 : ((ps.length : Int) == 0) = true := by simp [hp1]
        have HP1 := hide hp1
        clear hp1
        clear hw f hs hi hc hps hpc hpok hno

        go_enter Tryd.func27, Tryd.ntmps27
        go_wp2_with fail
        refine (Gf.l4Word_calls _ xs _ _ R.out).mono ?_
        rw [G.out]
        rintro e w' ⟨rfl, rfl⟩
        go_wp2_with fail
        refine (Gf.l4Is_calls _ xs n _ R.out EL.out n3).mono ?_
        rw [IB.out]
        rintro e w1 ⟨rfl, hb1⟩
        have B1 := hide hb1
        clear hb1
        go_wp2_with fail
        refine (Gf.l4Syndromes_calls _ xs n _ (R.out.below B1.out) EL.out n3).mono ?_
        rw [← HS.out]
        rintro e w2 ⟨v2, rfl, ho2, hb2⟩
        have R2 := hide ho2.rd
        have B2 := hide (B1.out.trans (hb2.mono B1.out.size))
        clear ho2 hb2
        go_wp2_with fail
        refine (Gf.l4Locator_calls _ (nat s) _ (by rw [SC.out]; exact R2.out) SN.out SL6.out).mono ?_
        rw [LO.out]
        rintro e w3 ⟨v3, rfl, ho3, hb3⟩
        have R3 := hide ho3.rd
        have R23 := hide (R2.out.below hb3)
        have B3 := hide (B2.out.trans (hb3.mono B2.out.size))
        obtain ⟨ca, cc, hv3, _, _, _⟩ := ho3.rd
        subst hv3
        clear ho3 hb3
        go_wp2_with fail
        refine (Gf.l4Places_calls _ c xs.length _ R3.out (Gf.goodP_all CG.out) hlen).mono ?_
        rw [HPC.out]
        rintro e w4 ⟨v4, rfl, ho4, hb4⟩
        have R4 := hide ho4.rd
        have R24 := hide (R23.out.below hb4)
        have B4 := hide (B3.out.trans (hb4.mono B3.out.size))
        obtain ⟨pa, pc, hv4, _, _, _⟩ := ho4.rd
        subst hv4
        clear ho4 hb4

        go_wp2
        go_ret3
        exact ⟨_, rfl, Gf.own_nil _ _, B4.out⟩
      have t0 : ((ps.length : Int) == 0) = false := by simp; intro e; simp [e] at hp1
      by_cases hrt : ps.length = c.length - 1
      case neg =>
        have hno : decW xs n = ([], 0, false) := decW_no hw hi (by unfold plOkW; rw [← hps, ← hc]; exact decide_eq_false (by omega))
        rw [hno]
        have t1 : ((ps.length : Int) != (c.length : Int) - 1) = true := by simp; omega
        clear hw f hs hi hc hps hpc hpok hno

        go_enter Tryd.func27, Tryd.ntmps27
        go_wp2_with fail
        refine (Gf.l4Word_calls _ xs _ _ R.out).mono ?_
        rw [G.out]
        rintro e w' ⟨rfl, rfl⟩
        go_wp2_with fail
        refine (Gf.l4Is_calls _ xs n _ R.out EL.out n3).mono ?_
        rw [IB.out]
        rintro e w1 ⟨rfl, hb1⟩
        have B1 := hide hb1
        clear hb1
        go_wp2_with fail
        refine (Gf.l4Syndromes_calls _ xs n _ (R.out.below B1.out) EL.out n3).mono ?_
        rw [← HS.out]
        rintro e w2 ⟨v2, rfl, ho2, hb2⟩
        have R2 := hide ho2.rd
        have B2 := hide (B1.out.trans (hb2.mono B1.out.size))
        clear ho2 hb2
        go_wp2_with fail
        refine (Gf.l4Locator_calls _ (nat s) _ (by rw [SC.out]; exact R2.out) SN.out SL6.out).mono ?_
        rw [LO.out]
        rintro e w3 ⟨v3, rfl, ho3, hb3⟩
        have R3 := hide ho3.rd
        have R23 := hide (R2.out.below hb3)
        have B3 := hide (B2.out.trans (hb3.mono B2.out.size))
        obtain ⟨ca, cc, hv3, _, _, _⟩ := ho3.rd
        subst hv3
        clear ho3 hb3
        go_wp2_with fail
        refine (Gf.l4Places_calls _ c xs.length _ R3.out (Gf.goodP_all CG.out) hlen).mono ?_
        rw [HPC.out]
        rintro e w4 ⟨v4, rfl, ho4, hb4⟩
        have R4 := hide ho4.rd
        have R24 := hide (R23.out.below hb4)
        have B4 := hide (B3.out.trans (hb4.mono B3.out.size))
        obtain ⟨pa, pc, hv4, _, _, _⟩ := ho4.rd
        subst hv4
        clear ho4 hb4

        go_wp2
        go_ret3
        exact ⟨_, rfl, Gf.own_nil _ _, B4.out⟩
      have t1 : ((ps.length : Int) != (c.length : Int) - 1) = false := by simp; omega
      have HRT := hide hrt
      by_cases hp2 : ps.length ≤ n
      case neg =>
        have hno : decW xs n = ([], 0, false) := decW_no hw hi (by unfold plOkW; rw [← hps, ← hc]; exact decide_eq_false (by omega))
        rw [hno]
        have hp2' : (n : Int) < (ps.length : Int) := by omega
        clear hrt
        clear hw f hs hi hc hps hpc hpok hno

        go_enter Tryd.func27, Tryd.ntmps27
        go_wp2_with fail
        refine (Gf.l4Word_calls _ xs _ _ R.out).mono ?_
        rw [G.out]
        rintro e w' ⟨rfl, rfl⟩
        go_wp2_with fail
        refine (Gf.l4Is_calls _ xs n _ R.out EL.out n3).mono ?_
        rw [IB.out]
        rintro e w1 ⟨rfl, hb1⟩
        have B1 := hide hb1
        clear hb1
        go_wp2_with fail
        refine (Gf.l4Syndromes_calls _ xs n _ (R.out.below B1.out) EL.out n3).mono ?_
        rw [← HS.out]
        rintro e w2 ⟨v2, rfl, ho2, hb2⟩
        have R2 := hide ho2.rd
        have B2 := hide (B1.out.trans (hb2.mono B1.out.size))
        clear ho2 hb2
        go_wp2_with fail
        refine (Gf.l4Locator_calls _ (nat s) _ (by rw [SC.out]; exact R2.out) SN.out SL6.out).mono ?_
        rw [LO.out]
        rintro e w3 ⟨v3, rfl, ho3, hb3⟩
        have R3 := hide ho3.rd
        have R23 := hide (R2.out.below hb3)
        have B3 := hide (B2.out.trans (hb3.mono B2.out.size))
        obtain ⟨ca, cc, hv3, _, _, _⟩ := ho3.rd
        subst hv3
        clear ho3 hb3
        go_wp2_with fail
        refine (Gf.l4Places_calls _ c xs.length _ R3.out (Gf.goodP_all CG.out) hlen).mono ?_
        rw [HPC.out]
        rintro e w4 ⟨v4, rfl, ho4, hb4⟩
        have R4 := hide ho4.rd
        have R24 := hide (R23.out.below hb4)
        have B4 := hide (B3.out.trans (hb4.mono B3.out.size))
        obtain ⟨pa, pc, hv4, _, _, _⟩ := ho4.rd
        subst hv4
        clear ho4 hb4

        go_wp2
        go_ret3
        exact ⟨_, rfl, Gf.own_nil _ _, B4.out⟩
      have hp2' : ¬ (n : Int) < (ps.length : Int) := by omega
      have hplok : plOkW xs n = true := by
        unfold plOkW
        rw [← hps, ← hc]
        exact decide_eq_true ⟨hrt, by omega, by omega⟩
      obtain ⟨out, hout⟩ : ∃ o, o = outW xs n := ⟨_, rfl⟩
      have HOUT : Hid (fixW xs ps s = out) := by
        rw [hout]
        show _ = fixW xs (plcW xs n) (synI xs (2 * (n : Int).toNat))
        rw [Int.toNat_natCast, ← hs, ← hps]
      have OE : Hid (out.all Gf.elOk = true) := by rw [hout]; exact outW_el f hplok
      have OL : Hid (out.length = xs.length) := by rw [hout]; exact outW_len xs n
      have PK := hide hpok.1
      have PIN := hide hpok.2
      have SEL : Hid (s.all Gf.elOk = true) := by rw [hs]; exact f.sel
      have HSL : Hid (ps.length ≤ s.length) := by show ps.length ≤ s.length; rw [hs, f.sl]; omega
      have YES : Hid (isB out n = true → decW xs n = (out, ((unpN xs out xs.length).length : Int), true)) := fun h4 => by
        rw [hout] at h4 ⊢
        exact decW_yes hw hi hplok h4
      have NOT : Hid (isB out n = false → decW xs n = ([], 0, false)) := fun h4 => by
        rw [hout] at h4
        exact decW_not hw hi hplok h4
      have hp0 : 1 ≤ ps.length := by omega
      have hp3 : ps.length ≤ 3 := by omega
      clear hw f hs hi hc hps hpc hpok hrt hplok hout
      cases hio : isB out n with
      | true =>
        rw [YES.out hio]
        have IO := hide hio
        have hun := unpN_length xs out xs.length
        obtain ⟨ul, hul⟩ : ∃ u, u = unpN xs out xs.length := ⟨_, rfl⟩
        rw [← hul] at hun ⊢
        have UL : Hid (unpN out xs out.length = ul) := by rw [hul, OL.out, unpN_comm]; exact hide rfl
        clear hio hul

        go_enter Tryd.func27, Tryd.ntmps27
        go_wp2_with fail
        refine (Gf.l4Word_calls _ xs _ _ R.out).mono ?_
        rw [G.out]
        rintro e w' ⟨rfl, rfl⟩
        go_wp2_with fail
        refine (Gf.l4Is_calls _ xs n _ R.out EL.out n3).mono ?_
        rw [IB.out]
        rintro e w1 ⟨rfl, hb1⟩
        have B1 := hide hb1
        clear hb1
        go_wp2_with fail
        refine (Gf.l4Syndromes_calls _ xs n _ (R.out.below B1.out) EL.out n3).mono ?_
        rw [← HS.out]
        rintro e w2 ⟨v2, rfl, ho2, hb2⟩
        have R2 := hide ho2.rd
        have B2 := hide (B1.out.trans (hb2.mono B1.out.size))
        clear ho2 hb2
        go_wp2_with fail
        refine (Gf.l4Locator_calls _ (nat s) _ (by rw [SC.out]; exact R2.out) SN.out SL6.out).mono ?_
        rw [LO.out]
        rintro e w3 ⟨v3, rfl, ho3, hb3⟩
        have R3 := hide ho3.rd
        have R23 := hide (R2.out.below hb3)
        have B3 := hide (B2.out.trans (hb3.mono B2.out.size))
        obtain ⟨ca, cc, hv3, _, _, _⟩ := ho3.rd
        subst hv3
        clear ho3 hb3
        go_wp2_with fail
        refine (Gf.l4Places_calls _ c xs.length _ R3.out (Gf.goodP_all CG.out) hlen).mono ?_
        rw [HPC.out]
        rintro e w4 ⟨v4, rfl, ho4, hb4⟩
        have R4 := hide ho4.rd
        have R24 := hide (R23.out.below hb4)
        have B4 := hide (B3.out.trans (hb4.mono B3.out.size))
        obtain ⟨pa, pc, hv4, _, _, _⟩ := ho4.rd
        subst hv4
        clear ho4 hb4

        go_wp2_with fail
        refine (l4Fix_calls _ _ _ xs ps s _ (R.out.below B4.out) R4.out R24.out EL.out SEL.out PK.out PIN.out hp0 hp3 HSL.out hlen).mono ?_
        rw [HOUT.out]
        rintro e w5 ⟨v5, rfl, ho5, hb5⟩
        have O5 := hide (ho5.mono B4.out.size)
        have B5 := hide (B4.out.trans (hb5.mono B4.out.size))
        clear ho5 hb5
        go_wp2_with fail
        refine (Gf.l4Is_calls _ out n _ O5.out.rd OE.out n3).mono ?_
        rw [IO.out]
        rintro e w6 ⟨rfl, hb6⟩
        have O6 := hide (O5.out.below hb6)
        have B6 := hide (B5.out.trans (hb6.mono B5.out.size))
        clear hb6

        go_wp2_with fail
        refine (l4Unlike_calls _ _ out xs _ O6.out.rd (R.out.below B6.out) OL.out (by rw [OL.out]; exact hlen)).mono ?_
        rw [UL.out]
        rintro e w7 ⟨v7, rfl, ho7, hb7⟩
        have O7 := hide (O6.out.below hb7)
        have B7 := hide (B6.out.trans (hb7.mono B6.out.size))
        obtain ⟨ua, uc, hv7, _, _, _⟩ := ho7.rd
        subst hv7
        clear ho7 hb7
        go_wp2
        go_ret3
        exact ⟨_, rfl, O7.out, B7.out⟩
      | false =>
        rw [NOT.out hio]
        have IO := hide hio
        clear hio

        go_enter Tryd.func27, Tryd.ntmps27
        go_wp2_with fail
        refine (Gf.l4Word_calls _ xs _ _ R.out).mono ?_
        rw [G.out]
        rintro e w' ⟨rfl, rfl⟩
        go_wp2_with fail
        refine (Gf.l4Is_calls _ xs n _ R.out EL.out n3).mono ?_
        rw [IB.out]
        rintro e w1 ⟨rfl, hb1⟩
        have B1 := hide hb1
        clear hb1
        go_wp2_with fail
        refine (Gf.l4Syndromes_calls _ xs n _ (R.out.below B1.out) EL.out n3).mono ?_
        rw [← HS.out]
        rintro e w2 ⟨v2, rfl, ho2, hb2⟩
        have R2 := hide ho2.rd
        have B2 := hide (B1.out.trans (hb2.mono B1.out.size))
        clear ho2 hb2
        go_wp2_with fail
        refine (Gf.l4Locator_calls _ (nat s) _ (by rw [SC.out]; exact R2.out) SN.out SL6.out).mono ?_
        rw [LO.out]
        rintro e w3 ⟨v3, rfl, ho3, hb3⟩
        have R3 := hide ho3.rd
        have R23 := hide (R2.out.below hb3)
        have B3 := hide (B2.out.trans (hb3.mono B2.out.size))
        obtain ⟨ca, cc, hv3, _, _, _⟩ := ho3.rd
        subst hv3
        clear ho3 hb3
        go_wp2_with fail
        refine (Gf.l4Places_calls _ c xs.length _ R3.out (Gf.goodP_all CG.out) hlen).mono ?_
        rw [HPC.out]
        rintro e w4 ⟨v4, rfl, ho4, hb4⟩
        have R4 := hide ho4.rd
        have R24 := hide (R23.out.below hb4)
        have B4 := hide (B3.out.trans (hb4.mono B3.out.size))
        obtain ⟨pa, pc, hv4, _, _, _⟩ := ho4.rd
        subst hv4
        clear ho4 hb4

        go_wp2_with fail
        refine (l4Fix_calls _ _ _ xs ps s _ (R.out.below B4.out) R4.out R24.out EL.out SEL.out PK.out PIN.out hp0 hp3 HSL.out hlen).mono ?_
        rw [HOUT.out]
        rintro e w5 ⟨v5, rfl, ho5, hb5⟩
        have O5 := hide (ho5.mono B4.out.size)
        have B5 := hide (B4.out.trans (hb5.mono B4.out.size))
        clear ho5 hb5
        go_wp2_with fail
        refine (Gf.l4Is_calls _ out n _ O5.out.rd OE.out n3).mono ?_
        rw [IO.out]
        rintro e w6 ⟨rfl, hb6⟩
        have O6 := hide (O5.out.below hb6)
        have B6 := hide (B5.out.trans (hb6.mono B5.out.size))
        clear hb6

        go_wp2
        go_ret3
        exact ⟨_, rfl, Gf.own_nil _ _, B6.out⟩
end Go.Proofs.YtogopakmebiomaaDoor
