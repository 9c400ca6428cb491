/-
  A disk handed over: a copy of the call's own, call by call. Each contract says what it asks. Good disks: the program's function and its model's, call by call. Each contract says what it asks. Good disks: the program's GoodDisk and its model's, call by call. Each contract says what it asks. A sector read: a text's copy, the program's ReadSector and its model's, call by call. Each contract says what it asks.
-/
import Derived.Test.YtbgadbokejaomaaGreatDoorRewriteAtB7
import Derived.Lib.Strings
import Derived.Lib.BufferWrite
import Derived.Lib.UnsafeStr
namespace Go.Proofs.YtbgadbokejaomaaGreatDoor
open Go.RowKit
set_option linter.unusedVariables false

abbrev nil3 : Array Value := #[.slice none 0 0, .slice none 0 0, .slice none 0 0]

set_option maxRecDepth 100000 in
set_option maxHeartbeats 800000 in
theorem toDisk_calls (p h b : Value) (P H : List ByteArray) (B : List Bool) (w : World) (hp : RdT w p P) (hh : RdT w h H) (hb : RdZ w b B) (hz : SzD P H B) :
    Calls Tryz.prog 48 #[.agg #[p, h, b]] w fun e w' => ∃ p' h' b', e = .returned (.agg #[p', h', b']) ∧ DskV w' w.heap.size w'.heap.size p' h' b' P H B ∧ Below w.heap.size w w' := by
  obtain ⟨zp, zh, zb⟩ := hz
  obtain ⟨wa, ea⟩ : ∃ wa, wa = w.alloc (.cells #[p, h, b] 37) := ⟨_, rfl⟩
  obtain ⟨wb, eb⟩ : ∃ wb, wb = wa.alloc (.cells nil3 26) := ⟨_, rfl⟩
  obtain ⟨wc, ec⟩ : ∃ wc, wc = wb.alloc (.cells nil3 26) := ⟨_, rfl⟩
  have sa : wa.heap.size = w.heap.size + 1 := by rw [ea]; simp
  have sb : wb.heap.size = w.heap.size + 1 + 1 := by rw [eb, World.size_alloc, sa]
  have sc : wc.heap.size = w.heap.size + 1 + 1 + 1 := by rw [ec, World.size_alloc, sb]
  have ba : Below w.heap.size w wa := by rw [ea]; exact below_box _ _
  have bb : Below wa.heap.size wa wb := by rw [eb]; exact below_box _ _
  have bc : Below wb.heap.size wb wc := by rw [ec]; exact below_box _ _
  have bz : Below w.heap.size w wc := (ba.trans (bb.mono (by omega))).trans (bc.mono (by omega))
  have xa : BoxAt wa w.heap.size #[p, h, b] 37 := by rw [ea]; exact BoxAt.new _ _ _
  have xb : BoxAt wb (w.heap.size + 1) nil3 26 := by rw [eb, ← sa]; exact BoxAt.new _ _ _
  have xc : BoxAt wc (w.heap.size + 1 + 1) nil3 26 := by rw [ec, ← sb]; exact BoxAt.new _ _ _
  have XA := hide ((xa.below bb).below bc)
  have XB := hide (xb.below bc)
  have XC := hide xc
  have SC := hide sc
  have EC : Hid (((w.alloc (.cells #[p, h, b] 37)).alloc (.cells nil3 26)).alloc (.cells nil3 26) = wc) := by show _ = _; rw [ec, eb, ea]
  have BZ := hide bz
  have RP := hide hp
  have RH := hide hh
  have RB := hide hb
  have SP := hide hp.small
  have SH := hide hh.small
  have y0 : w.heap.size ≤ w.heap.size + 1 + 1 := by omega
  have y1 : ¬ w.heap.size = w.heap.size + 1 + 1 := by omega
  have y2 : ¬ w.heap.size + 1 = w.heap.size + 1 + 1 := by omega
  have y3 : ¬ w.heap.size + 1 + 1 = w.heap.size + 1 := by omega
  clear hp hh hb xa xb xc ba bb bc bz sa sb sc ea eb ec
  go_enter Tryz.func48, Tryz.ntmps48
  go_wp2_with fail
  rw [EC.out]
  refine (toStringS_calls _ P _ (RP.out.below BZ.out) zp).mono ?_
  rintro e w1 ⟨p', rfl, o1, b1⟩
  have l1 : w.heap.size + 1 + 1 < w1.heap.size := by have := b1.size; have := SC.out; omega
  obtain ⟨a1, k1, rfl⟩ := row_slice o1
  have K1 := hide (Chg.ofSetCell (lo := w.heap.size + 1 + 1) (hi := w.heap.size + 1 + 1 + 1) w1 (w.heap.size + 1 + 1) 0 (.slice a1 P.length k1) (Nat.le_refl _) (by omega))
  have XA1 := hide (XA.out.below b1)
  have XB1 := hide (XB.out.below b1)
  have XC1 := hide (XC.out.below b1)
  have T1 := hide (row_top o1)
  have O1 := hide (ownsRow_chg o1 (row_top o1) K1.out (.inr (by have := SC.out; omega)))
  have D1 := hide ((BZ.out.trans (b1.mono BZ.out.size)).setCell (p := ⟨w.heap.size + 1 + 1, 0, none⟩) (by exact y0) (.slice a1 P.length k1))
  clear o1 b1 XA XB XC
  have f0 := XC1.out.frozen 0
  have c0 := XC1.out.cell 0
  have c1 := XA1.out.cell 1
  simp only [List.getElem?_toArray, List.getElem?_cons_zero, List.getElem?_cons_succ] at c0 c1
  go_wp2_with fail
  clear f0 c0 c1
  have XA2 := hide (XA1.out.chg K1.out (.inl (by omega)))
  have XB2 := hide (XB1.out.chg K1.out (.inl (by omega)))
  have XC2 := hide (XC1.out.set 0 (.slice a1 P.length k1))
  have s1 := K1.out.size
  have s1' : (w1.setCell ⟨w.heap.size + 1 + 1, 0, none⟩ (.slice a1 P.length k1)).heap.size = w1.heap.size := by simp
  clear K1 XA1 XB1 XC1
  generalize w1.setCell ⟨w.heap.size + 1 + 1, 0, none⟩ (.slice a1 P.length k1) = w2 at *
  refine (toStringS_calls _ H _ (RH.out.below D1.out) zh).mono ?_
  rintro e w3 ⟨h', rfl, o2, b2⟩
  have l2 : w.heap.size + 1 + 1 < w3.heap.size := by have := b2.size; omega
  obtain ⟨a2, k2, rfl⟩ := row_slice o2
  have K1 := hide (Chg.ofSetCell (lo := w.heap.size + 1 + 1) (hi := w.heap.size + 1 + 1 + 1) w3 (w.heap.size + 1 + 1) 1 (.slice a2 H.length k2) (Nat.le_refl _) (by omega))
  have XA1 := hide (XA2.out.below b2)
  have XB1 := hide (XB2.out.below b2)
  have XC1 := hide (XC2.out.below b2)
  have T2 := hide (row_top o2)
  have L2 := hide (row_low o2)
  have O2 := hide (ownsRow_chg o2 (row_top o2) K1.out (.inr (by omega)))
  have O1' := hide (ownsRow_chg (ownsRow_below O1.out b2) T1.out K1.out (.inr (by have := SC.out; omega)))
  have D2 := hide ((D1.out.trans (b2.mono D1.out.size)).setCell (p := ⟨w.heap.size + 1 + 1, 1, none⟩) (by exact y0) (.slice a2 H.length k2))
  have s2 := b2.size
  clear o2 b2 XA2 XB2 XC2 O1 D1
  have f0 := XC1.out.frozen 1
  have c0 := XC1.out.cell 1
  have c1 := XA1.out.cell 2
  simp only [List.getElem?_toArray, List.getElem?_cons_zero, List.getElem?_cons_succ] at c0 c1
  have c0' : w3.cell? ⟨w.heap.size + 1 + 1, 1, none⟩ = some (.slice none 0 0) := c0
  clear c0
  go_wp2_with fail
  clear f0 c0' c1
  have XA2 := hide (XA1.out.chg K1.out (.inl (by omega)))
  have XB2 := hide (XB1.out.chg K1.out (.inl (by omega)))
  have XC2 := hide (XC1.out.set 1 (.slice a2 H.length k2))
  have s3' : (w3.setCell ⟨w.heap.size + 1 + 1, 1, none⟩ (.slice a2 H.length k2)).heap.size = w3.heap.size := by simp
  clear K1 XA1 XB1 XC1
  generalize w3.setCell ⟨w.heap.size + 1 + 1, 1, none⟩ (.slice a2 H.length k2) = w4 at *
  refine (toBoolS_calls _ B _ (RB.out.below D2.out) zb).mono ?_
  rintro e w5 ⟨b', rfl, o3, b3⟩
  have l3 : w.heap.size + 1 + 1 < w5.heap.size := by have := b3.size; omega
  obtain ⟨a3, k3, rfl⟩ := row_slice o3
  have K1 := hide (Chg.ofSetCell (lo := w.heap.size + 1 + 1) (hi := w.heap.size + 1 + 1 + 1) w5 (w.heap.size + 1 + 1) 2 (.slice a3 B.length k3) (Nat.le_refl _) (by omega))
  have XB1 := hide (XB2.out.below b3)
  have XC1 := hide (XC2.out.below b3)
  have T3 := hide (row_top o3)
  have O3 := hide (ownsRow_chg o3 (row_top o3) K1.out (.inr (by omega)))
  have O2' := hide (ownsRow_chg (ownsRow_below O2.out b3) T2.out K1.out (.inr (by omega)))
  have O1 := hide (ownsRow_chg (ownsRow_below O1'.out b3) T1.out K1.out (.inr (by have := SC.out; omega)))
  have D3 := hide ((D2.out.trans (b3.mono D2.out.size)).setCell (p := ⟨w.heap.size + 1 + 1, 2, none⟩) (by exact y0) (.slice a3 B.length k3))
  clear XA2 XB2 XC2 D2 O1' O2
  have f0 := XC1.out.frozen 2
  have c0 : w5.cell? ⟨w.heap.size + 1 + 1, 0, none⟩ = some (.slice a1 P.length k1) := XC1.out.cell 0
  have c1 : w5.cell? ⟨w.heap.size + 1 + 1, 1, none⟩ = some (.slice a2 H.length k2) := XC1.out.cell 1
  have c2 : w5.cell? ⟨w.heap.size + 1 + 1, 2, none⟩ = some (.slice none 0 0) := XC1.out.cell 2
  have g0 := XB1.out.frozen 0
  have g1 := XB1.out.frozen 1
  have g2 := XB1.out.frozen 2
  obtain ⟨d0, d1, d2⟩ := XB1.out.c3
  have F := hide ((XB1.out.chg K1.out (.inl (by omega))))
  have s5 := b3.size
  clear o3 b3 XB1 XC1
  go_wp2
  have s6 : (w5.setCell ⟨w.heap.size + 1 + 1, 2, none⟩ (.slice a3 B.length k3)).heap.size = w5.heap.size := by simp
  generalize w5.setCell ⟨w.heap.size + 1 + 1, 2, none⟩ (.slice a3 B.length k3) = w6 at *
  have C6 := Chg.store3 (lo := w.heap.size + 1) (hi := w.heap.size + 1 + 1) w6 (w.heap.size + 1) (.slice a1 P.length k1) (.slice a2 H.length k2) (.slice a3 B.length k3) (Nat.le_refl _) (by omega)
  have s7 := C6.size
  refine bodyPost_ret (res_dsk rfl _ _ (w.heap.size + 1) _ _ _ (0, 0) rfl (F.out.store3 _ _ _)) rfl ⟨_, _, _, rfl, ?_, D3.out.trans (C6.below (by omega) (by omega))⟩
  have d6 : DskV w6 (w.heap.size + 1 + 1 + 1) w6.heap.size (.slice a1 P.length k1) (.slice a2 H.length k2) (.slice a3 B.length k3) P H B :=
    ⟨ownsRow_mono O1.out (by have := SC.out; omega), ownsRow_mono O2'.out (by omega), ownsRow_mono O3.out (by omega), fun k hk => by have := T1.out k hk; omega, fun k hk => by have := T2.out k hk; omega, fun k hk => by have := T3.out k hk; omega,
      by
        cases hu : (Value.slice a1 P.length k1).ownBlock with
        | none => exact .inl rfl
        | some x =>
          right
          intro e
          have := T1.out x hu
          have := L2.out x e.symm
          omega, SP.out, SH.out⟩
  exact (d6.chg C6 (.inr (by omega))).wider (by omega) (by omega)
end Go.Proofs.YtbgadbokejaomaaGreatDoor

namespace Go.Proofs.YtbgadbokejaomaaGreatDoor
open Go.RowKit
set_option linter.unusedVariables false

/-- A disk is good. -/
def gkP (P H : List ByteArray) (B : List Bool) : Prop :=
  (1 ≤ P.length ∧ P.length ≤ 24) ∧ H.length = P.length ∧ B.length = P.length ∧ (∀ i, i < P.length → (P.getD i ⟨#[]⟩).size ≤ 28) ∧ (∀ i, i < P.length → (H.getD i ⟨#[]⟩).size ≤ 28) ∧ (∀ i, i < P.length → B.getD i false = true → H.getD i ⟨#[]⟩ = ⟨#[]⟩)
theorem toList_ne {z : ByteArray} (h : ¬ z = ⟨#[]⟩) : ¬ z.toList = [] ∧ (z.toList == []) = false := by
  have hz1 : ¬ z.toList = [] := by
    intro e
    apply h
    rw [ByteArray.toList_eq] at e
    apply ByteArray.ext
    simpa using e
  exact ⟨hz1, by simpa using hz1⟩

set_option maxRecDepth 100000 in
theorem isSectorCount_yes (n : Int) (w : World) (h : 1 ≤ n ∧ n ≤ 24) : Calls Tryz.prog 156 #[.int .i64 n] w fun e w' => e = .returned (.bool true) ∧ w = w' := by
  obtain ⟨h1, h2⟩ := h
  go_enter Tryz.func156, Tryz.ntmps156
  go_wp2
  go_ret
  exact ⟨by simp, rfl⟩
set_option maxRecDepth 100000 in
theorem isSectorCount_no (n : Int) (w : World) (h : ¬ (1 ≤ n ∧ n ≤ 24)) : Calls Tryz.prog 156 #[.int .i64 n] w fun e w' => e = .returned (.bool false) ∧ w = w' := by
  by_cases h1 : 1 ≤ n
  · have h2 : ¬ n ≤ 24 := fun e => h ⟨h1, e⟩
    clear h
    go_enter Tryz.func156, Tryz.ntmps156
    go_wp2
    go_ret
    exact ⟨by simp, rfl⟩
  · clear h
    go_enter Tryz.func156, Tryz.ntmps156
    go_wp2
    go_ret
    exact ⟨rfl, rfl⟩
set_option maxRecDepth 100000 in
theorem fitsSector_calls (z : ByteArray) (g : Bool) (w : World) (hg : g = true ↔ z.size ≤ 28) (hz : z.size ≤ maxLen) : Calls Tryz.prog 158 #[.string z] w fun e w' => e = .returned (.bool g) ∧ w = w' := by
  unfold maxLen at hz
  have HG := hide hg
  clear hg
  go_enter Tryz.func158, Tryz.ntmps158
  go_wp2
  go_ret
  refine ⟨ret_bool ?_, rfl⟩
  have := HG.out
  cases g
  · simp at this
    simp; omega
  · simp at this
    simp; omega

set_option maxRecDepth 100000 in
set_option maxHeartbeats 400000 in
theorem allFit_calls (v : Value) (xs : List ByteArray) (g : Bool) (w : World) (h : RdT w v xs) (hg : g = true ↔ ∀ i, i < xs.length → (xs.getD i ⟨#[]⟩).size ≤ 28) :
    Calls Tryz.prog 157 #[v, .func (.func 158) #[] #[]] w fun e w' => e = .returned (.bool g) ∧ w = w' := by
  obtain ⟨a, cap, rfl, h1, h2, h4, h3⟩ := h
  have hm : xs.length ≤ maxLen := by omega
  unfold maxLen at hm
  have H3 := hide h3
  have H4 := hide h4
  have HG := hide hg
  clear h3 h4 h2 h1 hg
  go_enter Tryz.func157, Tryz.ntmps157
  go_wp2
  go_loop [9] (fun vi => ∃ k : Nat, k ≤ xs.length ∧ vi = .int .i64 k ∧ ∀ i, i < k → (xs.getD i ⟨#[]⟩).size ≤ 28) (fun vi => xs.length - (intOf vi).toNat)
  case atStart => exact ⟨0, Nat.zero_le _, rfl, fun i hi => by omega⟩
  case round =>
    obtain ⟨k, hk, rfl, hall⟩ := hrel
    have HA := hide hall
    clear hall
    by_cases hlt : k < xs.length
    · rcases H3.out with h3 | ⟨b, off, rfl, hbs, hc⟩
      · subst h3; simp at hlt
      have hc1 := hc k hlt
      have hz : (xs.getD k ⟨#[]⟩).size ≤ maxLen := by
        apply H4.out
        rw [List.getD_eq_getElem?_getD, List.getElem?_eq_getElem hlt]
        exact List.getElem_mem hlt
      clear hc
      obtain ⟨z, hzz⟩ : ∃ z, z = xs.getD k ⟨#[]⟩ := ⟨_, rfl⟩
      rw [← hzz] at hc1 hz
      have HZ := hide hzz
      have hlt' : (k : Int) < (xs.length : Int) := by omega
      clear hzz
      by_cases h28 : z.size ≤ 28
      · have C : Hid (∀ W, Calls Tryz.prog 158 #[.string z] W fun e w' => e = .returned (.bool true) ∧ W = w') := fun W => fitsSector_calls z true W ⟨fun _ => h28, fun _ => rfl⟩ hz
        have H28 := hide h28
        clear h28 hz
        go_wp2_with fail
        refine (C.out _).mono ?_
        rintro e w1 ⟨rfl, rfl⟩
        go_wp2
        go_round
        case rel =>
          refine ⟨k + 1, by omega, by go_num, fun i hi => ?_⟩
          by_cases e : i = k
          · subst e; rw [← HZ.out]; exact H28.out
          · exact HA.out i (by omega)
        case measure => simp [intOf]; omega
      · have C : Hid (∀ W, Calls Tryz.prog 158 #[.string z] W fun e w' => e = .returned (.bool false) ∧ W = w') := fun W => fitsSector_calls z false W ⟨fun h => by simp at h, fun h => absurd h h28⟩ hz
        have H28 := hide h28
        clear h28 hz
        go_wp2_with fail
        refine (C.out _).mono ?_
        rintro e w1 ⟨rfl, rfl⟩
        go_wp2
        go_ret
        refine ⟨ret_bool ?_, rfl⟩
        cases g with
        | false => rfl
        | true => exact absurd (HG.out.1 rfl k hlt) (by rw [← HZ.out]; exact H28.out)
    · obtain rfl : k = xs.length := by omega
      go_wp2
      go_ret
      exact ⟨ret_bool (HG.out.2 HA.out).symm, rfl⟩

theorem RdT.cell {w : World} {a : Option Addr} {n cap : Nat} {xs : List ByteArray} (h : RdT w (.slice a n cap) xs) (i : Nat) (hi : i < xs.length) : ∃ b off, a = some ⟨b, off, none⟩ ∧ w.cell? ⟨b, off + i, none⟩ = some (.string (xs.getD i ⟨#[]⟩)) ∧ b < w.heap.size := by
  obtain ⟨a', cap', hv, _, _, _, h3⟩ := h
  simp only [Value.slice.injEq] at hv
  obtain ⟨rfl, rfl, rfl⟩ := hv
  rcases h3 with h3 | ⟨b, off, rfl, hlt, hc⟩
  · subst h3; simp at hi
  · exact ⟨b, off, rfl, hc i hi, hlt⟩
theorem RdZ.cell {w : World} {a : Option Addr} {n cap : Nat} {xs : List Bool} (h : RdZ w (.slice a n cap) xs) (i : Nat) (hi : i < xs.length) : ∃ b off, a = some ⟨b, off, none⟩ ∧ w.cell? ⟨b, off + i, none⟩ = some (.bool (xs.getD i false)) ∧ b < w.heap.size := by
  obtain ⟨a', cap', hv, _, _, h3⟩ := h
  simp only [Value.slice.injEq] at hv
  obtain ⟨rfl, rfl, rfl⟩ := hv
  rcases h3 with h3 | ⟨b, off, rfl, hlt, hc⟩
  · subst h3; simp at hi
  · exact ⟨b, off, rfl, hc i hi, hlt⟩
theorem RdT.sl {w : World} {v : Value} {xs : List ByteArray} (h : RdT w v xs) : ∃ a cap, v = .slice a xs.length cap ∧ xs.length ≤ 9223372036854775807 ∧ xs.length ≤ cap := by
  obtain ⟨a, cap, rfl, h1, h2, _⟩ := h
  have h3 := h2.1
  exact ⟨a, cap, rfl, by unfold maxLen at h3; omega, h1⟩
theorem RdZ.sl {w : World} {v : Value} {xs : List Bool} (h : RdZ w v xs) : ∃ a cap, v = .slice a xs.length cap ∧ xs.length ≤ 9223372036854775807 ∧ xs.length ≤ cap := by
  obtain ⟨a, cap, rfl, h1, h2, _⟩ := h
  have h3 := h2.1
  exact ⟨a, cap, rfl, by unfold maxLen at h3; omega, h1⟩
theorem RdT.szAt {w : World} {v : Value} {xs : List ByteArray} (h : RdT w v xs) (i : Nat) : (xs.getD i ⟨#[]⟩).size ≤ 9223372036854775807 := by
  have := h.small
  rw [List.getD_eq_getElem?_getD]
  cases hx : xs[i]? with
  | none => exact Nat.zero_le _
  | some s =>
    have h1 := this s (List.mem_of_getElem? hx)
    unfold maxLen at h1
    simp; omega

end Go.Proofs.YtbgadbokejaomaaGreatDoor

namespace Go.Proofs.YtbgadbokejaomaaGreatDoor
open Go.RowKit
set_option linter.unusedVariables false

theorem gk_bool' (P H : List ByteArray) (B : List Bool) : ∃ g : Bool, g = true ↔ gkP P H B := by
  by_cases hh : gkP P H B
  · exact ⟨true, fun _ => hh, fun _ => rfl⟩
  · exact ⟨false, fun h => by simp at h, fun h => absurd h hh⟩
theorem gk_no1 {P H : List ByteArray} {B : List Bool} {g : Bool} (hg : g = true ↔ gkP P H B) (h : ¬ gkP P H B) : g = false := by
  cases g with
  | false => rfl
  | true => exact absurd (hg.1 rfl) h

set_option maxRecDepth 100000 in
set_option maxHeartbeats 1600000 in
theorem goodDisk_calls (p h b : Value) (P H : List ByteArray) (B : List Bool) (g : Bool) (w : World) (hg : g = true ↔ gkP P H B) (hp : RdT w p P) (hh : RdT w h H) (hb : RdZ w b B) :
    Calls Tryz.prog 115 #[.agg #[p, h, b]] w fun e w' => e = .returned (.bool g) ∧ Below w.heap.size w w' := by
  have b0 := below_box w (.cells #[p, h, b] 26)
  have RP := hide (hp.below b0)
  have RH := hide (hh.below b0)
  have RB := hide (hb.below b0)
  have B0 := hide b0
  have HG := hide hg
  obtain ⟨ap, cp, rfl, mp, _⟩ := hp.sl
  obtain ⟨ah, ch, rfl, mh, _⟩ := hh.sl
  obtain ⟨ab, cb, rfl, mb, _⟩ := hb.sl
  clear b0 hp hh hb hg
  by_cases h1 : 1 ≤ P.length ∧ P.length ≤ 24
  case neg =>
    have e0 := hide (gk_no1 HG.out (fun h => h1 h.1))
    go_enter Tryz.func115, Tryz.ntmps115
    go_wp2_with fail
    refine (isSectorCount_no _ _ (by omega)).mono ?_
    rintro e w1 ⟨rfl, rfl⟩
    go_wp2
    go_ret
    exact ⟨ret_bool e0.out.symm, B0.out⟩
  have h1' : 1 ≤ (P.length : Int) ∧ (P.length : Int) ≤ 24 := by omega
  by_cases h2 : H.length = P.length
  case neg =>
    have e0 := hide (gk_no1 HG.out (fun h => h2 h.2.1))
    have h2' : ¬ (H.length : Int) = (P.length : Int) := by omega
    have h2b : ((H.length : Int) == (P.length : Int)) = false := by simpa using h2'
    clear h2
    go_enter Tryz.func115, Tryz.ntmps115
    go_wp2_with fail
    refine (isSectorCount_yes _ _ h1').mono ?_
    rintro e w1 ⟨rfl, rfl⟩
    go_wp2
    go_ret
    exact ⟨ret_bool e0.out.symm, B0.out⟩
  by_cases h3 : B.length = P.length
  case neg =>
    have e0 := hide (gk_no1 HG.out (fun h => h3 h.2.2.1))
    have h3' : ¬ (B.length : Int) = (P.length : Int) := by omega
    have h3b : ((B.length : Int) == (P.length : Int)) = false := by simpa using h3'
    rw [h2] at B0 ⊢
    clear h2 h3
    go_enter Tryz.func115, Tryz.ntmps115
    go_wp2_with fail
    refine (isSectorCount_yes _ _ h1').mono ?_
    rintro e w1 ⟨rfl, rfl⟩
    go_wp2
    go_ret
    exact ⟨ret_bool e0.out.symm, B0.out⟩
  rw [h2, h3] at RP RH RB B0 ⊢
  obtain ⟨n, hn⟩ : ∃ n, n = P.length := ⟨_, rfl⟩
  have LP := hide hn
  have LH := hide (hn.trans h2.symm)
  have LB := hide (hn.trans h3.symm)
  rw [← hn] at RP RH RB B0 mp h1 h1' ⊢
  clear hn h2 h3 mh mb
  have X0 := hide (BoxAt.new w #[.slice ap n cp, .slice ah n ch, .slice ab n cb] 26)
  have GP : Hid (∃ g1 : Bool, g1 = true ↔ ∀ i, i < P.length → (P.getD i ⟨#[]⟩).size ≤ 28) := by
    show ∃ g1 : Bool, _
    by_cases hh : ∀ i, i < P.length → (P.getD i ⟨#[]⟩).size ≤ 28
    · exact ⟨true, fun _ => hh, fun _ => rfl⟩
    · exact ⟨false, fun h => by simp at h, fun h => absurd h hh⟩
  have GH : Hid (∃ g1 : Bool, g1 = true ↔ ∀ i, i < H.length → (H.getD i ⟨#[]⟩).size ≤ 28) := by
    show ∃ g1 : Bool, _
    by_cases hh : ∀ i, i < H.length → (H.getD i ⟨#[]⟩).size ≤ 28
    · exact ⟨true, fun _ => hh, fun _ => rfl⟩
    · exact ⟨false, fun h => by simp at h, fun h => absurd h hh⟩
  go_enter Tryz.func115, Tryz.ntmps115
  go_wp2_with fail
  refine (isSectorCount_yes _ _ h1').mono ?_
  rintro e w1 ⟨rfl, rfl⟩
  go_wp2
  generalize w.alloc (.cells #[.slice ap n cp, .slice ah n ch, .slice ab n cb] 26) = W at *
  go_loop [4, 5, 29] (fun _ _ vi => ∃ k : Nat, k ≤ n ∧ vi = .int .i64 k ∧ ∀ i, i < k → B.getD i false = true → H.getD i ⟨#[]⟩ = ⟨#[]⟩) (fun _ _ vi => n - (intOf vi).toNat)
  case atStart => exact ⟨0, Nat.zero_le _, rfl, fun i hi => by omega⟩
  case round =>
    obtain ⟨k, hk, rfl, hall⟩ := hrel
    have HA := hide hall
    clear hall
    obtain ⟨c0, c1, c2⟩ := X0.out.c3
    by_cases hlt : k < n
    · obtain ⟨gb, ob, rfl, hb1, _⟩ := RB.out.cell k (by rw [← LB.out]; exact hlt)
      obtain ⟨gh, oh, rfl, hh1, _⟩ := RH.out.cell k (by rw [← LH.out]; exact hlt)
      obtain ⟨z, hz⟩ : ∃ z, z = H.getD k ⟨#[]⟩ := ⟨_, rfl⟩
      obtain ⟨y, hy⟩ : ∃ y, y = B.getD k false := ⟨_, rfl⟩
      rw [← hz] at hh1
      rw [← hy] at hb1
      have HZ := hide hz
      have HY := hide hy
      clear hz hy
      have hlt' : (k : Int) < (n : Int) := by omega
      cases y with
      | false =>
        clear hh1
        go_wp2
        go_round
        case rel =>
          refine ⟨k + 1, by omega, by go_num, fun i hi hB => ?_⟩
          by_cases e : i = k
          · subst e; rw [← HY.out] at hB; simp at hB
          · exact HA.out i (by omega) hB
        case measure => simp [intOf]; omega
      | true =>
        by_cases hz0 : z = ⟨#[]⟩
        · subst hz0
          go_wp2
          go_round
          case rel =>
            refine ⟨k + 1, by omega, by go_num, fun i hi hB => ?_⟩
            by_cases e : i = k
            · subst e; exact HZ.out.symm
            · exact HA.out i (by omega) hB
          case measure => simp [intOf]; omega
        · obtain ⟨zz1, zz2⟩ := toList_ne hz0
          have e0 := hide (gk_no1 HG.out (fun h => hz0 (HZ.out.trans (h.2.2.2.2.2 k (by rw [← LP.out]; exact hlt) HY.out.symm))))
          clear hz0
          go_wp2
          go_ret
          exact ⟨ret_bool e0.out.symm, B0.out⟩
    · obtain rfl : k = n := by omega
      clear c2
      obtain ⟨g1, hg1⟩ := GP.out
      obtain ⟨g2, hg2⟩ := GH.out
      have C1 : Hid (∀ V, RdT V (.slice ap k cp) P → Calls Tryz.prog 157 #[.slice ap k cp, .func (.func 158) #[] #[]] V fun e w' => e = .returned (.bool g1) ∧ V = w') := fun V hV => allFit_calls _ P g1 V hV hg1
      have C2 : Hid (∀ V, RdT V (.slice ah k ch) H → Calls Tryz.prog 157 #[.slice ah k ch, .func (.func 158) #[] #[]] V fun e w' => e = .returned (.bool g2) ∧ V = w') := fun V hV => allFit_calls _ H g2 V hV hg2
      have HG1 := hide hg1
      have HG2 := hide hg2
      clear hg1 hg2
      cases g1 with
      | false =>
        have e0 := hide (gk_no1 HG.out (fun h => by have := HG1.out.2 h.2.2.2.1; simp at this))
        go_wp2_with fail
        refine (C1.out _ RP.out).mono ?_
        rintro e w1 ⟨rfl, rfl⟩
        go_wp2
        go_ret
        exact ⟨ret_bool e0.out.symm, B0.out⟩
      | true =>
        go_wp2_with fail
        refine (C1.out _ RP.out).mono ?_
        rintro e w1 ⟨rfl, rfl⟩
        go_wp2_with fail
        refine (C2.out _ RH.out).mono ?_
        rintro e w1 ⟨rfl, rfl⟩
        go_wp2
        go_ret
        refine ⟨ret_bool ?_, B0.out⟩
        cases g2 with
        | false => exact (gk_no1 HG.out (fun h => by have := HG2.out.2 (fun i hi => h.2.2.2.2.1 i (by rw [← LP.out, LH.out]; exact hi)); simp at this)).symm
        | true => exact (HG.out.2 ⟨by rw [← LP.out]; exact h1, by rw [← LP.out, LH.out], by rw [← LP.out, LB.out], HG1.out.1 (by simp), fun i hi => HG2.out.1 (by simp) i (by rw [← LH.out, LP.out]; exact hi), fun i hi => HA.out i (by rw [LP.out]; exact hi)⟩).symm

set_option maxRecDepth 100000 in
set_option maxHeartbeats 1600000 in
theorem sGoodDisk_calls (p h b : Value) (P H : List ByteArray) (B : List Bool) (g : Bool) (w : World) (hg : g = true ↔ gkP P H B) (hp : RdT w p P) (hh : RdT w h H) (hb : RdZ w b B) :
    Calls Tryz.prog 93 #[.agg #[p, h, b]] w fun e w' => e = .returned (.bool g) ∧ Below w.heap.size w w' := by
  have b0 := below_box w (.cells #[p, h, b] 26)
  have RP := hide (hp.below b0)
  have RH := hide (hh.below b0)
  have RB := hide (hb.below b0)
  have B0 := hide b0
  have HG := hide hg
  obtain ⟨ap, cp, rfl, mp, _⟩ := hp.sl
  obtain ⟨ah, ch, rfl, mh, _⟩ := hh.sl
  obtain ⟨ab, cb, rfl, mb, _⟩ := hb.sl
  clear b0 hp hh hb hg
  by_cases h1 : 1 ≤ P.length ∧ P.length ≤ 24
  case neg =>
    have e0 := hide (gk_no1 HG.out (fun h => h1 h.1))
    go_enter Tryz.func93, Tryz.ntmps93
    go_wp2_with fail
    refine (l1In_no _ _ _ _ (by omega)).mono ?_
    rintro e w1 ⟨rfl, rfl⟩
    go_wp2
    go_ret
    exact ⟨ret_bool e0.out.symm, B0.out⟩
  have h1a : 1 ≤ (P.length : Int) := by omega
  have h1b : (P.length : Int) ≤ 24 := by omega
  by_cases h2 : H.length = P.length
  case neg =>
    have e0 := hide (gk_no1 HG.out (fun h => h2 h.2.1))
    have h2' : ¬ (H.length : Int) = (P.length : Int) := by omega
    have h2b : ((H.length : Int) == (P.length : Int)) = false := by simpa using h2'
    clear h2
    go_enter Tryz.func93, Tryz.ntmps93
    go_wp2_with fail
    refine (l1In_yes _ _ _ _ h1a h1b).mono ?_
    rintro e w1 ⟨rfl, rfl⟩
    go_wp2
    go_ret
    exact ⟨ret_bool e0.out.symm, B0.out⟩
  by_cases h3 : B.length = P.length
  case neg =>
    have e0 := hide (gk_no1 HG.out (fun h => h3 h.2.2.1))
    have h3' : ¬ (B.length : Int) = (P.length : Int) := by omega
    have h3b : ((B.length : Int) == (P.length : Int)) = false := by simpa using h3'
    rw [h2] at B0 ⊢
    clear h2 h3
    go_enter Tryz.func93, Tryz.ntmps93
    go_wp2_with fail
    refine (l1In_yes _ _ _ _ h1a h1b).mono ?_
    rintro e w1 ⟨rfl, rfl⟩
    go_wp2
    go_ret
    exact ⟨ret_bool e0.out.symm, B0.out⟩
  rw [h2, h3] at RP RH RB B0 ⊢
  obtain ⟨n, hn⟩ : ∃ n, n = P.length := ⟨_, rfl⟩
  have LP := hide hn
  have LH := hide (hn.trans h2.symm)
  have LB := hide (hn.trans h3.symm)
  rw [← hn] at RP RH RB B0 mp h1 h1a h1b ⊢
  clear hn h2 h3 mh mb
  have X0 := hide (BoxAt.new w #[.slice ap n cp, .slice ah n ch, .slice ab n cb] 26)
  go_enter Tryz.func93, Tryz.ntmps93
  go_wp2_with fail
  refine (l1In_yes _ _ _ _ h1a h1b).mono ?_
  rintro e w1 ⟨rfl, rfl⟩
  go_wp2
  generalize w.alloc (.cells #[.slice ap n cp, .slice ah n ch, .slice ab n cb] 26) = W at *
  go_loop [4, 28] (fun _ vi => ∃ k : Nat, k ≤ n ∧ vi = .int .i64 k ∧ ∀ i, i < k → ((P.getD i ⟨#[]⟩).size ≤ 28 ∧ (H.getD i ⟨#[]⟩).size ≤ 28) ∧ (B.getD i false = true → H.getD i ⟨#[]⟩ = ⟨#[]⟩)) (fun _ vi => n - (intOf vi).toNat)
  case atStart => exact ⟨0, Nat.zero_le _, rfl, fun i hi => by omega⟩
  case round =>
    obtain ⟨k, hk, rfl, hall⟩ := hrel
    have HA := hide hall
    clear hall
    obtain ⟨c0, c1, c2⟩ := X0.out.c3
    by_cases hlt : k < n
    · obtain ⟨gb, ob, rfl, hb1, _⟩ := RB.out.cell k (by rw [← LB.out]; exact hlt)
      obtain ⟨gh, oh, rfl, hh1, _⟩ := RH.out.cell k (by rw [← LH.out]; exact hlt)
      obtain ⟨gp, op, rfl, hp1, _⟩ := RP.out.cell k (by rw [← LP.out]; exact hlt)
      have mz := RH.out.szAt k
      have mu := RP.out.szAt k
      obtain ⟨u, hu⟩ : ∃ u, u = P.getD k ⟨#[]⟩ := ⟨_, rfl⟩
      obtain ⟨z, hz⟩ : ∃ z, z = H.getD k ⟨#[]⟩ := ⟨_, rfl⟩
      obtain ⟨y, hy⟩ : ∃ y, y = B.getD k false := ⟨_, rfl⟩
      rw [← hu] at hp1 mu
      rw [← hz] at hh1 mz
      rw [← hy] at hb1
      have HU := hide hu
      have HZ := hide hz
      have HY := hide hy
      clear hz hy hu
      have hlt' : (k : Int) < (n : Int) := by omega
      by_cases u28 : u.size ≤ 28
      case neg =>
        have e0 := hide (gk_no1 HG.out (fun h => u28 (by rw [HU.out]; exact h.2.2.2.1 k (by rw [← LP.out]; exact hlt))))
        have u1 : (28 : Int) < (u.size : Int) := by omega
        clear hh1 hb1 c1 c2
        go_wp2
        go_ret
        exact ⟨ret_bool e0.out.symm, B0.out⟩
      have u1 : ¬ (28 : Int) < (u.size : Int) := by omega
      have u2 : decide ((28 : Int) < (u.size : Int)) = false := decide_eq_false u1
      by_cases z28 : z.size ≤ 28
      case neg =>
        have e0 := hide (gk_no1 HG.out (fun h => z28 (by rw [HZ.out]; exact h.2.2.2.2.1 k (by rw [← LP.out]; exact hlt))))
        have z1 : (28 : Int) < (z.size : Int) := by omega
        clear hb1 c2
        go_wp2
        go_ret
        exact ⟨ret_bool e0.out.symm, B0.out⟩
      have z1 : ¬ (28 : Int) < (z.size : Int) := by omega
      have z2 : decide ((28 : Int) < (z.size : Int)) = false := decide_eq_false z1
      have S28 := hide (And.intro u28 z28)
      clear u28 z28
      cases y with
      | false =>
        go_wp2
        go_round
        case rel =>
          refine ⟨k + 1, by omega, by go_num, fun i hi => ?_⟩
          by_cases e : i = k
          · subst e; rw [← HY.out, ← HU.out, ← HZ.out]; exact ⟨S28.out, fun h => by simp at h⟩
          · exact HA.out i (by omega)
        case measure => simp [intOf]; omega
      | true =>
        by_cases hz0 : z = ⟨#[]⟩
        · subst hz0
          go_wp2
          go_round
          case rel =>
            refine ⟨k + 1, by omega, by go_num, fun i hi => ?_⟩
            by_cases e : i = k
            · subst e; rw [← HU.out, ← HZ.out]; exact ⟨S28.out, fun _ => rfl⟩
            · exact HA.out i (by omega)
          case measure => simp [intOf]; omega
        · obtain ⟨zz1, zz2⟩ := toList_ne hz0
          have e0 := hide (gk_no1 HG.out (fun h => hz0 (HZ.out.trans (h.2.2.2.2.2 k (by rw [← LP.out]; exact hlt) HY.out.symm))))
          clear hz0
          go_wp2
          go_ret
          exact ⟨ret_bool e0.out.symm, B0.out⟩
    · obtain rfl : k = n := by omega
      clear c0 c1 c2
      go_wp2
      go_ret
      refine ⟨ret_bool ?_, B0.out⟩
      exact (HG.out.2 ⟨by rw [← LP.out]; exact h1, by rw [← LP.out, LH.out], by rw [← LP.out, LB.out], fun i hi => (HA.out i (by rw [LP.out]; exact hi)).1.1, fun i hi => (HA.out i (by rw [LP.out]; exact hi)).1.2, fun i hi => (HA.out i (by rw [LP.out]; exact hi)).2⟩).symm
end Go.Proofs.YtbgadbokejaomaaGreatDoor

namespace Go.Proofs.YtbgadbokejaomaaGreatDoor
open Go.RowKit
set_option linter.unusedVariables false

theorem infoU8c : (Tryz.prog.info? 5).map (fun i => (i.zero, i.size, i.bytes)) = some (some (.int .u8 0), 1, 1) := by kernel_rfl

set_option maxHeartbeats 4000000 in
set_option maxRecDepth 100000 in
theorem clone0_calls (s : ByteArray) (w : World) (hlim : s.size ≤ 1048576) :
    Calls Tryz.prog 197 #[.string s] w fun e w' => e = .returned (.string s) ∧ Below w.heap.size w w' := by
  by_cases h0 : s.size = 0
  · have hs : s = ⟨#[]⟩ := by
      apply ByteArray.ext
      exact Array.eq_empty_of_size_eq_zero h0
    subst hs
    go_enter Tryz.func197, Tryz.ntmps197
    go_wp2
    go_ret
    exact ⟨rfl, Below.refl _ _⟩
  · obtain ⟨i0, hi, hz0, hz1, hz2⟩ := info_parts infoU8c
    have hinfo : (Tryz.prog.info? 5).map (·.size) = some 1 := by rw [hi]; simp [hz1]
    have hco : Tryz.prog.cellsOf 5 = 1 := by simp [Program.cellsOf, hi, hz1]
    obtain ⟨M, hM⟩ : ∃ M, M = madeCells (Value.int .u8 0).cells (((s.size : Nat) : Int).toNat * i0.size) := ⟨_, rfl⟩
    have hMs : M.size = s.size := by rw [hM, size_madeCells, hz1]; simp
    have hmk : ∀ W : World, (Instr.makeSlice 56 (.int .i64 (s.size : Int)) (.int .i64 (s.size : Int))).run Tryz.prog W = .ok (.slice (some ⟨W.heap.size, 0, none⟩) s.size s.size) (W.alloc (.cells M 5)) := fun W => by
      have h := run_make (P := Tryz.prog) W 56 5 i0 (.int .u8 0) Tryz.underlying56 hi hz0 .i64 .i64 (s.size : Int) (s.size : Int) (by omega) (by omega) (by rw [hz2]; omega) (by omega)
      rw [← hM] at h
      simpa using h
    clear hM
    have hcp := Lib.run_copy_row_string (P := Tryz.prog) (w.alloc (.cells M 5)) 56 9 3 5 w.heap.size 0 s.size s.size s M 5 Tryz.underlying56 hinfo (heap_alloc_new w _) (Nat.le_refl _) (by omega)
    obtain ⟨Y, hY⟩ : ∃ Y, Y = (M.toList.take 0 ++ Lib.byteCells s.data.toList ++ M.toList.drop (0 + s.size)).toArray := ⟨_, rfl⟩
    rw [← hY] at hcp
    have hYl : Y.toList = Lib.byteCells s.data.toList := by
      rw [hY, List.toList_toArray, List.take_zero, List.nil_append, List.drop_of_length_le (by rw [Array.length_toList]; omega), List.append_nil]
    have hYs : Y.size = s.size := by rw [← Array.length_toList, hYl, Lib.byteCells_length, ← Lib.size_eq]
    have hgY : ((w.alloc (.cells M 5)).setRow w.heap.size Y).heap[w.heap.size]? = some (.cells Y 5 (0, 0)) := setRow_heap _ _ M _ 5 (0, 0) (heap_alloc_new w _)
    have hne : s.data.toList ≠ [] := fun e => h0 (by rw [Lib.size_eq, e]; rfl)
    have hUS := Lib.run_unsafeString_row (P := Tryz.prog) ((w.alloc (.cells M 5)).setRow w.heap.size Y) 237 3 9 5 Tryz.underlying237 hco w.heap.size Y.size (by unfold World.shape?; rw [hgY]) s.data.toList hne (by rw [← Lib.size_eq]; omega) (by rw [← Lib.size_eq]; omega)
      (fun j x hx => Lib.cells_of_row hgY Y.size j _ (by rw [List.take_of_length_le (by rw [Array.length_toList]; exact Nat.le_refl _), hYl]; simp [Lib.byteCells, hx]))
    rw [← Lib.size_eq] at hUS
    clear hY hi hz0 hz1 hz2
    go_enter Tryz.func197, Tryz.ntmps197
    go_wp2
    go_ret
    have hb1 : Below w.heap.size w (w.alloc (.cells M 5)) := (Below.refl _ w).alloc (Nat.le_refl _) _
    have hb2 : Below w.heap.size (w.alloc (.cells M 5)) ((w.alloc (.cells M 5)).setRow w.heap.size Y) := ⟨rfl, rfl, rfl, by simp, fun k hk => setRow_other _ _ _ _ (by omega)⟩
    exact ⟨rfl, Lib.below_freeze (hb1.trans hb2) (p := ⟨w.heap.size, 0, none⟩) (Nat.le_refl _) _⟩

set_option maxRecDepth 100000 in
theorem clone_calls (s : ByteArray) (w : World) (hlim : s.size ≤ 1048576) :
    Calls Tryz.prog 162 #[.string s] w fun e w' => e = .returned (.string s) ∧ Below w.heap.size w w' := by
  go_enter Tryz.func162, Tryz.ntmps162
  go_wp2_with fail
  refine (clone0_calls s _ hlim).mono ?_
  rintro e w1 ⟨rfl, q⟩
  go_wp2
  go_ret
  exact ⟨rfl, q⟩

set_option maxRecDepth 100000 in
theorem hasSector_yes (ap : Option Addr) (n cp : Nat) (h b : Value) (A : Int) (w : World) (h0 : 0 ≤ A) (h1 : A < (n : Int)) (hn : n ≤ 1048576) :
    Calls Tryz.prog 127 #[.agg #[.slice ap n cp, h, b], .int .i64 A] w fun e w' => e = .returned (.bool true) ∧ Below w.heap.size w w' := by
  have B0 := hide (below_box w (.cells #[.slice ap n cp, h, b] 26))
  go_enter Tryz.func127, Tryz.ntmps127
  go_wp2
  go_ret
  exact ⟨by simp, B0.out⟩
set_option maxRecDepth 100000 in
theorem l7There_yes (ap : Option Addr) (n cp : Nat) (h b : Value) (A : Int) (w : World) (h0 : 0 ≤ A) (h1 : A < (n : Int)) (hn : n ≤ 1048576) :
    Calls Tryz.prog 135 #[.agg #[.slice ap n cp, h, b], .int .i64 A] w fun e w' => e = .returned (.bool true) ∧ Below w.heap.size w w' := by
  have B0 := hide (below_box w (.cells #[.slice ap n cp, h, b] 26))
  go_enter Tryz.func135, Tryz.ntmps135
  go_wp2
  go_ret
  exact ⟨by simp, B0.out⟩
set_option maxRecDepth 100000 in
theorem l7There_no (ap : Option Addr) (n cp : Nat) (h b : Value) (A : Int) (w : World) (h0 : ¬ (0 ≤ A ∧ A < (n : Int))) (hn : n ≤ 1048576) :
    Calls Tryz.prog 135 #[.agg #[.slice ap n cp, h, b], .int .i64 A] w fun e w' => e = .returned (.bool false) ∧ Below w.heap.size w w' := by
  have B0 := hide (below_box w (.cells #[.slice ap n cp, h, b] 26))
  by_cases h1 : 0 ≤ A
  · have h2 : ¬ A < (n : Int) := fun e => h0 ⟨h1, e⟩
    clear h0
    go_enter Tryz.func135, Tryz.ntmps135
    go_wp2
    go_ret
    exact ⟨by simp, B0.out⟩
  · clear h0
    go_enter Tryz.func135, Tryz.ntmps135
    go_wp2
    go_ret
    exact ⟨rfl, B0.out⟩

theorem size_zero {z : ByteArray} (h : z.size = 0) : z = ⟨#[]⟩ := by
  apply ByteArray.ext
  exact Array.eq_empty_of_size_eq_zero h
end Go.Proofs.YtbgadbokejaomaaGreatDoor
