/-
  Rows made: 'append(out, row)', new rows of noughts, copies of a list, the identity: the program's functions and its model's, call by call. Each contract says what it asks.
-/
import Derived.Test.YtiojipicincgfaaDoorGood
namespace Go.Proofs.YtiojipicincgfaaDoor
open Go.RowKit

/-- 'append(out, row)', out rows of the call's own, row a new list of its own. -/
theorem wpList_append_row {w W1 : World} {ops : Array Oper} {rest : List Oper} {o : Oper} {a : Act} {Q : Exit → Act → World → Prop} (hgd : o.guard = none) (s x : Operand)
    (ho : o.op = .call { callee := .builtin .append, args := #[s, x], argTypes := #[22, 22] })
    (lo hi : Nat) (v : Value) (vs : List Value) (m : List (List Int)) (hs : a.eval s = v) (h : MatV w lo hi v vs m) (hb : Below w.heap.size w W1) (u : Value) (r : List Int) (hu : Own W1 w.heap.size u r) (hh : hi ≤ w.heap.size) (hlo : lo ≤ w.heap.size)
    (g : Nat) (hx : a.eval x = .slice (some ⟨g, 0, none⟩) 1 1) (hcell : W1.cell? ⟨g, 0, none⟩ = some u) (hn : m.length ≤ 1048576)
    (K : ∀ v' w2, MatV w2 lo w2.heap.size v' (vs ++ [u]) (m ++ [r]) → Below lo w w2 → wpList Tryd.prog ops Q rest (a.put o.dst v') w2) : wpList Tryd.prog ops Q (o :: rest) a W1 := by
  obtain ⟨i0, hi0, hz0, hz1, hz2⟩ := info_parts infoRow
  have hsz := hb.size
  refine wpList_append_own (w := W1) hgd s x _ ho lo _ i0 (.slice none 0 0) 1 24 Tryd.underlying22 hi0 hz0 hz1 hz2 rfl (by decide) v m.length vs hs (ownsRow_below h.head hb) ⟨g, 0, none⟩ 1 1 [u] hx (by simp) ?_ ?_ (by unfold maxLen; omega) (by omega) (by omega) ?_
  · intro j y hj
    cases j with
    | zero =>
      simp at hj
      subst hj
      have hadd : (⟨g, 0, none⟩ : Addr).add 0 = ⟨g, 0, none⟩ := by unfold Addr.add; split <;> simp_all
      rw [hadd]; exact hcell
    | succ j => simp at hj
  · intro y hy
    simp at hy
    subst hy
    obtain ⟨xa, xn, xc, rfl⟩ := hu.shape
    rfl
  · intro v' w2 ho2 hg2 _
    exact K v' w2 (h.push hb hu hh hlo ho2 hg2) ((hb.mono hlo).grown hg2 (by omega) (fun k hk => (World.ownsRow.lt h.head k hk).1))

theorem map_range_set {α : Type} (f : Nat → α) (n k : Nat) (x : α) : ((List.range n).map f).set k x = (List.range n).map (fun i => if i = k then x else f i) := by
  apply List.ext_getElem?
  intro i
  rw [List.getElem?_set]
  by_cases hi : i < n
  · by_cases e : k = i
    · subst e; simp [hi]
    · rw [if_neg e, List.getElem?_map, List.getElem?_map, List.getElem?_range hi]
      simp only [Option.map_some]
      rw [if_neg (fun h => e h.symm)]
  · simp [hi]; omega
/-- Row i of the identity of n. -/
def unitRow (n i : Nat) : List Int := (List.replicate n (0 : Int)).set i 1
def identM (n : Nat) : List (List Int) := (List.range n).map (unitRow n)
def identTo (n k : Nat) : List (List Int) := (List.range n).map fun i => if i < k then unitRow n i else List.replicate n 0
theorem identM_length (n : Nat) : (identM n).length = n := by simp [identM]
theorem identM_get (n i : Nat) (h : i < n) : (identM n).getD i [] = unitRow n i := by simp [identM, h]
theorem unitRow_length (n i : Nat) : (unitRow n i).length = n := by simp [unitRow]
theorem identTo_length (n k : Nat) : (identTo n k).length = n := by simp [identTo]
theorem identTo_get (n k : Nat) (h : k < n) : (identTo n k).getD k [] = List.replicate n 0 := by simp [identTo, h]
theorem identTo_step (n k : Nat) : (identTo n k).set k (unitRow n k) = identTo n (k + 1) := by
  unfold identTo
  rw [map_range_set]
  apply List.map_congr_left
  intro i _
  by_cases e : i = k
  · subst e; simp
  · rw [if_neg e]
    by_cases h : i < k
    · rw [if_pos h, if_pos (by omega)]
    · rw [if_neg h, if_neg (by omega)]
theorem identTo_zero (n : Nat) : identTo n 0 = List.replicate n (List.replicate n 0) := by
  unfold identTo
  apply List.ext_getElem?
  intro i
  by_cases hi : i < n
  · simp [hi]
  · simp [hi]
theorem identTo_end (n : Nat) : identTo n n = identM n := by
  unfold identTo identM
  apply List.map_congr_left
  intro i hi
  rw [if_pos (List.mem_range.1 hi)]

set_option maxRecDepth 100000 in
set_option maxHeartbeats 800000 in
theorem newRows_calls (n l : Nat) (w : World) (hn : n ≤ 1048576) (hl : l ≤ 1048576) :
    Calls Tryd.prog 77 #[.int .i64 n, .int .i64 l] w fun e w' => ∃ v', e = .returned v' ∧ Mat w' w.heap.size w'.heap.size v' (List.replicate n (List.replicate l 0)) ∧ Below w.heap.size w w' := by
  obtain ⟨MM, hM⟩ : ∃ M : List (List Int), M = List.replicate n (List.replicate l 0) := ⟨_, rfl⟩
  rw [← hM]
  have hMl : MM.length = n := by rw [hM]; simp
  have hMg : ∀ k, k < n → MM.getD k [] = List.replicate l 0 := fun k hk => by rw [hM]; simp [hk]
  have HL := hide hMl
  have HG := hide hMg
  clear hM hMl hMg
  go_enter Tryd.func77, Tryd.ntmps77
  go_wp2_with (at_make; refine wpList_make_rows rfl _ _ rfl _ _ n rfl rfl (by omega) (by omega) hn ?_)
  intro w0 hm0 hg0
  have M0 := hide hm0
  have G0 := hide hg0
  clear hm0 hg0
  go_wp2
  go_loopw [11] (fun vi wr => ∃ (k : Nat) (vs : List Value), k ≤ n ∧ vi = .int .i64 k ∧ MatV wr w.heap.size wr.heap.size (.slice (some ⟨w.heap.size, 0, none⟩) n n) vs (toTo MM k) ∧ Below w.heap.size w wr) (fun vi _ => n - (intOf vi).toNat)
  case atStart =>
    refine ⟨0, List.replicate n nilRow, Nat.zero_le _, rfl, ?_, (Below.refl _ _).grown G0.out (Nat.le_refl _) (fun k h => by cases h)⟩
    rw [toTo_zero, HL.out]
    exact M0.out
  case round =>
    obtain ⟨k, vs, hk, rfl, hm, hb⟩ := hrel
    have M := hide hm
    have B := hide hb
    clear hm hb
    by_cases hlt : k < n
    · have hlt' : (k : Int) < (n : Int) := by omega
      go_wp2_with (at_make; refine wpList_make_ints rfl _ _ rfl wr.heap.size _ _ l rfl rfl (by omega) (by omega) (by omega) (Nat.le_refl _) ?_)
      intro w1 hx hg1
      have hb1 : Below wr.heap.size wr w1 := (Below.refl _ _).grown hg1 (Nat.le_refl _) (fun k h => by cases h)
      have hkl : k < (toTo MM k).length := by rw [toTo_length _ k (by rw [HL.out]; exact hk), HL.out]; exact hlt
      have hM1 := M.out.below hb1
      have hc2 : w1.frozen? ⟨w.heap.size, k, none⟩ = false := World.ownsRow.frozenAt (by have := hM1.head; rwa [← hM1.lenEq] at this) k
      have hc3 := hM1.cell k hkl
      have L := hide (M.out.lay k hkl hb1 _ _ hx M.out.sizeLo (Nat.le_refl _))
      have B1 := hide hb1
      clear hM1 hx hb1 hg1
      go_wp2
      go_roundw
      case rel =>
        refine ⟨k + 1, vs.set k (.slice (some ⟨wr.heap.size, 0, none⟩) l l), by omega, by go_num, ?_, ?_⟩
        · have := L.out.1
          rw [← HG.out k hlt, toTo_step _ k (by rw [HL.out]; exact hlt)] at this
          exact this
        · exact (B.out.trans (B1.out.mono B.out.size)).setCell (Nat.le_refl _) _
      case measure => simp [intOf]; omega
    · obtain rfl : k = n := by omega
      go_wp2
      go_ret
      have hm := M.out
      have e := toTo_end MM
      rw [HL.out] at e
      rw [e] at hm
      exact ⟨_, rfl, ⟨_, hm⟩, B.out⟩

theorem Own.open1 {w : World} {base : Nat} {v : Value} {xs : List Int} (h : Own w base v xs) (hn : 0 < xs.length) :
    ∃ g cap, v = .slice (some ⟨g, 0, none⟩) xs.length cap ∧ base ≤ g ∧ g < w.heap.size ∧ xs.length ≤ cap ∧ cap ≤ maxLen := by
  rcases h.2 with ⟨_, h0⟩ | ⟨g, cap, cur, rfl, hb, hg, hc, hm, _⟩
  · omega
  · exact ⟨g, cap, rfl, hb, (Array.getElem?_eq_some_iff.1 hg).1, hc, hm⟩
/-- One cell of an owned list is written. -/
theorem Own.put {w : World} {base g n cap : Nat} {xs : List Int} (h : Own w base (.slice (some ⟨g, 0, none⟩) n cap) xs) (i : Nat) (x : Int) :
    Own (w.setCell ⟨g, i, none⟩ (.int .i64 x)) base (.slice (some ⟨g, 0, none⟩) n cap) (xs.set i x) ∧ w.grownBy (w.setCell ⟨g, i, none⟩ (.int .i64 x)) (some g) := by
  have hn : n = xs.length := by
    rcases h.2 with ⟨h', _⟩ | ⟨g', cap', cur, h', _⟩
    · simp at h'
    · simp at h'; exact h'.2.1
  subst hn
  have := World.ownsRow.stored h i (.int .i64 x)
  refine ⟨?_, this.2⟩
  have h1 := this.1
  rw [← List.map_set] at h1
  show World.ownsRow _ _ _ _ _ (xs.set i x).length _
  rw [List.length_set]
  exact h1
theorem Own.at {w : World} {base g n cap : Nat} {xs : List Int} (h : Own w base (.slice (some ⟨g, 0, none⟩) n cap) xs) (i : Nat) (hi : i < xs.length) :
    w.frozen? ⟨g, i, none⟩ = false ∧ w.cell? ⟨g, i, none⟩ = some (.int .i64 (xs.getD i 0)) := by
  have hn : n = xs.length := by
    rcases h.2 with ⟨h', _⟩ | ⟨g', cap', cur, h', _⟩
    · simp at h'
    · simp at h'; exact h'.2.1
  subst hn
  refine ⟨World.ownsRow.frozenAt h i, ?_⟩
  rw [World.ownsRow.cellAt h i (by omega)]
  simp [hi]

set_option maxRecDepth 100000 in
set_option maxHeartbeats 800000 in
theorem identity_calls (n : Nat) (w : World) (h0 : 1 ≤ n) (h8 : n ≤ 8) :
    Calls Tryd.prog 82 #[.int .i64 n] w fun e w' => ∃ v', e = .returned v' ∧ Mat w' w.heap.size w'.heap.size v' (identM n) ∧ Below w.heap.size w w' := by
  go_enter Tryd.func82, Tryd.ntmps82
  go_wp2_with fail
  refine (newRows_calls n n _ (by omega) (by omega)).mono ?_
  rintro e w1 ⟨v1, rfl, ⟨vs, hm⟩, hb⟩
  rw [← identTo_zero] at hm
  obtain ⟨g, cap, rfl, hg1, hg2, hg3, hg4⟩ := hm.open (by rw [identTo_length]; omega)
  rw [identTo_length] at *
  have M0 := hide hm
  have B0 := hide hb
  clear hm hb
  go_wp2
  go_loopw [10] (fun vi wr => ∃ (k : Nat), k ≤ n ∧ vi = .int .i64 k ∧ MatV wr w.heap.size w1.heap.size (.slice (some ⟨g, 0, none⟩) n cap) vs (identTo n k) ∧ Chg w.heap.size w1.heap.size w1 wr) (fun vi _ => n - (intOf vi).toNat)
  case atStart => exact ⟨0, Nat.zero_le _, rfl, M0.out, Chg.refl _ _ _⟩
  case round =>
    obtain ⟨k, hk, rfl, hM, hC⟩ := hrel
    by_cases hlt : k < n
    · have hlt' : (k : Int) < (n : Int) := by omega
      have hkl : k < (identTo n k).length := by rw [identTo_length]; exact hlt
      have hc1 := hM.cell k hkl
      have hro := hM.row k hkl
      rw [identTo_get n k hlt] at hro
      obtain ⟨u, hu⟩ : ∃ u, u = vs.getD k nilRow := ⟨_, rfl⟩
      rw [← hu] at hc1 hro
      obtain ⟨g', cap', rfl, hq1, hq2, hq3, hq4⟩ := hro.open1 (by simp; omega)
      simp only [List.length_replicate] at hc1 hro hq3 hu
      obtain ⟨hf, hc⟩ := hro.at k (by simp; exact hlt)
      have W := hide (hro.put k 1)
      have U := hide hu
      have M := hide hM
      have C := hide hC
      clear hu hM hC hro
      go_wp2
      go_roundw
      case rel =>
        have hw := W.out
        have hg := hw.2
        have ho := hw.1
        have hU := U.out
        rw [show (some g' : Option Nat) = (vs.getD k nilRow).ownBlock from by rw [← hU]; rfl] at hg
        rw [hU] at ho
        refine ⟨k + 1, by omega, by go_num, ?_, C.out.trans (M.out.writeChg k hkl hg)⟩
        have := M.out.write k hkl (unitRow n k) ho hg
        rwa [identTo_step] at this
      case measure => simp [intOf]; omega
    · obtain rfl : k = n := by omega
      rw [identTo_end] at hM
      have M := hide hM
      have C := hide hC
      clear hM hC
      go_wp2
      go_ret
      have hs := C.out.size
      exact ⟨_, rfl, ⟨_, M.out.wider (Nat.le_refl _) hs⟩, Below.thenChg B0.out C.out (Nat.le_refl _)⟩

set_option maxRecDepth 100000 in
set_option maxHeartbeats 800000 in
theorem l2Identity_calls (n : Nat) (w : World) (h0 : 1 ≤ n) (h8 : n ≤ 8) :
    Calls Tryd.prog 69 #[.int .i64 n] w fun e w' => ∃ v', e = .returned v' ∧ Mat w' w.heap.size w'.heap.size v' (identM n) ∧ Below w.heap.size w w' := by
  obtain ⟨I, hI⟩ : ∃ I, I = identM n := ⟨_, rfl⟩
  rw [← hI]
  have HI := hide hI
  clear hI
  go_enter Tryd.func69, Tryd.ntmps69
  go_wp2
  go_loopw [3, 4] (fun vo vi wr => ∃ (k : Nat) (vs : List Value), k ≤ n ∧ vi = .int .i64 k ∧ MatV wr w.heap.size wr.heap.size vo vs (I.take k) ∧ Below w.heap.size w wr) (fun _ vi _ => n - (intOf vi).toNat)
  case atStart =>
    obtain ⟨vs, hv⟩ := Mat.nil w w.heap.size w.heap.size
    exact ⟨0, vs, Nat.zero_le _, rfl, hv, Below.refl _ _⟩
  case round =>
    obtain ⟨k, vs, hk, rfl, hM, hB⟩ := hrel
    have M := hide hM
    have B := hide hB
    clear hM hB
    by_cases hlt : k < n
    · have hlt' : (k : Int) < (n : Int) := by omega
      go_wp2_with (at_make; refine wpList_make_ints rfl _ _ rfl wr.heap.size _ _ n rfl rfl (by omega) (by omega) (by omega) (Nat.le_refl _) ?_)
      intro w1 hx hg1
      have hb1 : Below wr.heap.size wr w1 := (Below.refl _ _).grown hg1 (Nat.le_refl _) (fun k h => by cases h)
      obtain ⟨hf, hc⟩ := hx.at k (by simp; exact hlt)
      have hp := hx.put k 1
      have hb2 := hb1.setCell (p := ⟨wr.heap.size, k, none⟩) (Nat.le_refl _) (.int .i64 1)
      have O2 := hide hp.1
      have B2 := hide hb2
      clear hx hg1 hb1 hp hb2
      go_wp2_with (at_builtin; go_loud (refine wpList_append_row rfl _ _ rfl w.heap.size wr.heap.size _ vs (I.take k) rfl M.out (B2.out.alloc B2.out.size _) _ (unitRow n k) (O2.out.below ((Below.refl _ _).alloc (Nat.le_refl _) _)) (Nat.le_refl _) B.out.size _ rfl (World.cell?_alloc_at _ _ _ _ (by simp)) (by simp; omega) ?_))
      intro v2 w2 hM2 hB2
      have M2 := hide hM2
      have B3 := hide hB2
      clear hM2 hB2
      go_wp2
      go_roundw
      case rel =>
        refine ⟨k + 1, vs ++ [.slice (some ⟨wr.heap.size, 0, none⟩) n n], by omega, by go_num, ?_, B.out.trans B3.out⟩
        · have := M2.out
          have e : I.take k ++ [unitRow n k] = I.take (k + 1) := by
            have hl : k < I.length := by rw [HI.out, identM_length]; exact hlt
            rw [List.take_succ_eq_append_getElem hl]
            have := identM_get n k hlt
            rw [← HI.out, List.getD_eq_getElem?_getD, List.getElem?_eq_getElem hl, Option.getD_some] at this
            rw [this]
          rw [e] at this
          exact this
      case measure => simp [intOf]; omega
    · obtain rfl : k = n := by omega
      go_wp2
      go_ret
      have hm := M.out
      rw [List.take_of_length_le (by rw [HI.out, identM_length]; exact Nat.le_refl _)] at hm
      exact ⟨_, rfl, ⟨_, hm⟩, B.out⟩
end Go.Proofs.YtiojipicincgfaaDoor
