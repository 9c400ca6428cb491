/-
  What the laws do with a recipe: mark it, look for the marks; what a law holds of texts and recipes. Each contract says what it asks.
-/
import Derived.Test.YthmijjcddjlebaaDedupB18
import Derived.Test.YthmijjcddjlebaaDedupB12
import Derived.Test.YthmijjcddjlebaaDedupB14
namespace Go.Proofs.Ythmijjcddjlebaa
open Go.RowKit
set_option linter.unusedVariables false

/-- Texts of the call's own, a recipe of the call's own, as things to hold. -/
def TTx (v : Value) (xs : List ByteArray) : Tg := fun lo hi w => OwnT w lo v xs ∧ ∀ k, v.ownBlock = some k → k < hi
theorem TTx.st (v : Value) (xs : List ByteArray) : (TTx v xs).st := fun lo hi a b w w' ⟨h, ht⟩ hc hd => ⟨rowsChg h ht hc hd, ht⟩
def TRc (vc vu : Value) (C : List ByteArray) (U : List (List Int)) : Tg := fun lo hi w => OwnRc w lo hi vc vu C U
theorem TRc.st (vc vu : Value) (C : List ByteArray) (U : List (List Int)) : (TRc vc vu C U).st := fun lo hi a b w w' ⟨⟨h, ht⟩, vs, hm⟩ hc hd => ⟨⟨rowsChg h ht hc hd, ht⟩, vs, hm.chg hc hd⟩
theorem OwnRc.sls {w : World} {lo hi : Nat} {vc vu : Value} {C : List ByteArray} {U : List (List Int)} (h : OwnRc w lo hi vc vu C U) : ∃ a c b d, vc = .slice a C.length c ∧ vu = .slice b U.length d := by
  obtain ⟨⟨h1, _⟩, vs, h2⟩ := h
  obtain ⟨a, c, e1⟩ := row_slice9 h1
  obtain ⟨b, d, e2⟩ := row_slice9 h2.head
  exact ⟨a, c, b, d, e1, e2⟩
theorem RdT.sl9 {w : World} {v : Value} {xs : List ByteArray} (h : RdT w v xs) : ∃ a c, v = .slice a xs.length c := by
  obtain ⟨a, c, e, _⟩ := h
  exact ⟨a, c, e⟩
theorem RdM.sl9 {w : World} {v : Value} {xs : List (List Int)} (h : RdM w v xs) : ∃ a c, v = .slice a xs.length c := by
  obtain ⟨a, c, e, _⟩ := h
  exact ⟨a, c, e⟩
theorem tot_snoc9 (m : List (List Int)) (r : List Int) : tot (m ++ [r]) = tot m + r.length := by simp [tot]
theorem dedF_tot (xs : List ByteArray) (k : Nat) (hk : k ≤ xs.length) (h : ∀ i, i < xs.length → (xs.getD i ⟨#[]⟩).size ≤ 300) : tot (dedF (xs.take k)).2 ≤ 300 * k := by
  induction k with
  | zero => exact Nat.le_refl _
  | succ k ih =>
    have h1 := ih (by omega)
    rw [dedF_snoc xs k (by omega)]
    unfold stepD
    have h3 := useF_len (dedF (xs.take k)).1 (chunksT (xs.getD k ⟨#[]⟩))
    have h4 := chunksT_length (xs.getD k ⟨#[]⟩)
    have h5 := h k (by omega)
    simp only
    rw [tot_snoc9]
    omega
theorem ded_small (xs : List ByteArray) : (∀ u ∈ (dedR xs).1, u.size ≤ maxLen) ∧ (dedR xs).1.length ≤ 2400 ∧ (dedR xs).2.1.length + tot (dedR xs).2.1 ≤ 4000 := by
  unfold dedR
  split
  · rename_i h
    have a1 := dedF_all xs xs.length (Nat.le_refl _) h.2
    have a2 := dedF_len xs xs.length (Nat.le_refl _) h.2
    have a3 := dedF_tot xs xs.length (Nat.le_refl _) h.2
    rw [List.take_length] at a1 a2 a3
    have a4 : xs.length ≤ 8 := h.1
    refine ⟨fun u hu => ?_, ?_, ?_⟩
    · have := a1 u hu
      unfold maxLen
      omega
    · show (dedF xs).1.length ≤ 2400
      omega
    · show (dedF xs).2.length + tot (dedF xs).2 ≤ 4000
      omega
  · exact ⟨fun u hu => by simp at hu, by simp, by simp [tot]⟩

theorem ret_int9 {a b : Int} (h : a = b) : Ending.returned (.int .i64 a) = .returned (.int .i64 b) := by rw [h]
/-- Blocks of a type stay. -/
def KeepE (e : TypeId) (w w' : World) : Prop := ∀ (g : Nat) (cur : Array Value) (fr : Nat × Nat), w.heap[g]? = some (Obj.cells cur e fr) → w'.heap[g]? = some (Obj.cells cur e fr)
theorem KeepE.refl (e : TypeId) (w : World) : KeepE e w w := fun _ _ _ h => h
theorem KeepE.trans {e : TypeId} {a b c : World} (h : KeepE e a b) (k : KeepE e b c) : KeepE e a c := fun g cur fr hg => k g cur fr (h g cur fr hg)
theorem KeepE.row {e e' : TypeId} {w w' : World} {lo n s : Nat} {v : Value} {xs : List Value} (h : w.ownsRow lo e' s v n xs) (hg : w.grownBy w' v.ownBlock) (hne : e' ≠ e) : KeepE e w w' := fun g cur fr hgg => by
  rw [hg.block g (Array.getElem?_eq_some_iff.1 hgg).1 (fun e0 => ?_)]
  · exact hgg
  · rcases h.2 with ⟨rfl, _⟩ | ⟨g', cap', cur', rfl, _, hg', _⟩
    · simp [Value.ownBlock] at e0
    · simp only [Value.ownBlock, Option.some.injEq] at e0
      subst e0
      rw [hgg] at hg'
      simp only [Option.some.injEq, Obj.cells.injEq] at hg'
      exact hne hg'.2.1.symm
theorem KeepE.own {e : TypeId} {w w' : World} {lo n s : Nat} {v : Value} {xs : List Value} (h : w.ownsRow lo e s v n xs) (hk : KeepE e w w') : w'.ownsRow lo e s v n xs := by
  refine ⟨h.1, ?_⟩
  rcases h.2 with hn | ⟨g, cap, cur, rfl, hb, hg, rest⟩
  · exact .inl hn
  · exact .inr ⟨g, cap, cur, rfl, hb, hk g _ _ hg, rest⟩

set_option maxRecDepth 100000 in
set_option maxHeartbeats 800000 in
theorem markIntSS_keeps (v : Value) (m : List (List Int)) (k : Int) (lo hi : Nat) (w : World) (h : Mat w lo hi v m) (hk0 : 0 ≤ k) (hk : k ≤ 1073741824) (hn : m.length + tot m ≤ 1048576) :
    Calls Try.prog 113 #[v, .int .i64 k] w fun e w' => e = .returned (.int .i64 (k + tot m)) ∧ Mat w' lo hi v (marksM k m) ∧ Chg lo hi w w' ∧ KeepE 9 w w' := by
  obtain ⟨vs, h⟩ := h
  by_cases h0 : m.length = 0
  · have e : m = [] := List.eq_nil_of_length_eq_zero h0
    subst e
    rcases h.head.2 with ⟨rfl, _⟩ | ⟨g, cap, cur, rfl, _⟩
    · go_enter Try.func113, Try.ntmps113
      go_wp2
      refine wp_loop_rounds 1 ?_
      rw [rounds_succ]
      go_wp2
      go_ret
      exact ⟨by simp [tot], ⟨vs, h⟩, Chg.refl _ _ _, KeepE.refl _ _⟩
    · go_enter Try.func113, Try.ntmps113
      go_wp2
      refine wp_loop_rounds 1 ?_
      rw [rounds_succ]
      go_wp2
      go_ret
      exact ⟨by simp [tot], ⟨vs, h⟩, Chg.refl _ _ _, KeepE.refl _ _⟩
  obtain ⟨g, cap, rfl, hg1, hg2, hg3, hg4⟩ := h.open (by omega)
  have hn1 : m.length ≤ 1048576 := by omega
  have Hn := hide hn
  have H := hide h
  clear hn h
  go_enter Try.func113, Try.ntmps113
  go_wp2
  go_loopw [1, 5] (fun vk vi wr => ∃ (i t : Nat), i ≤ m.length ∧ vi = .int .i64 i ∧ t = tot (m.take i) ∧ t ≤ 1048576 ∧ vk = .int .i64 (k + t) ∧ MatV wr lo hi (.slice (some ⟨g, 0, none⟩) m.length cap) vs (mkToM k m i) ∧ Chg lo hi w wr ∧ KeepE 9 w wr) (fun _ vi _ => m.length - (intOf vi).toNat)
  case atStart => exact ⟨0, 0, Nat.zero_le _, rfl, by simp [tot], by omega, by go_num, by simpa [mkToM] using H.out, Chg.refl _ _ _, KeepE.refl _ _⟩
  case round =>
    obtain ⟨i, t, hi', rfl, ht, ht2, rfl, hM, hC, hK⟩ := hrel
    have KE := hide hK
    clear hK
    by_cases hlt : i < m.length
    · have hil : i < (mkToM k m i).length := by rw [mkToM_length k m i hi']; exact hlt
      have hc1 := hM.cell i hil
      have hro := hM.row i hil
      rw [mkToM_get k m i] at hro
      obtain ⟨u, hu⟩ : ∃ u, u = vs.getD i nilRow := ⟨_, rfl⟩
      rw [← hu] at hc1 hro
      obtain ⟨r, hr⟩ : ∃ r, r = (m.getD i []).length := ⟨_, rfl⟩
      have hs := tot_take_succ m i hlt
      have hs2 := tot_row_le m i hlt
      rw [← hr, ← ht] at hs hs2
      have U := hide hu
      have M := hide hM
      have C := hide hC
      have Ro := hide hro
      have Ht := hide ht
      have Hr := hide hr
      have Hs := hide hs
      have hr2 : r ≤ 1048576 := by have := Hn.out; omega
      have hr3 : t + r ≤ 1048576 := by have := Hn.out; omega
      clear hu hM hC hro ht hr hs hs2
      have hlt' : (i : Int) < (m.length : Int) := by omega
      go_wp2_with fail
      refine (markIntS_calls u (m.getD i []) (k + t) lo _ Ro.out (by omega) (by omega) (by rw [← Hr.out]; omega)).mono ?_
      rw [← Hr.out]
      rintro e w1 ⟨rfl, ho, hg⟩
      have O := hide ho
      have G := hide hg
      clear ho hg
      go_wp2
      go_roundw
      case rel =>
        have ho := O.out
        have hg := G.out
        have hu := U.out
        rw [hu] at ho hg
        refine ⟨i + 1, t + r, by omega, by go_num, Hs.out.symm, hr3, by go_num, ?_, C.out.trans (M.out.writeChg i hil hg), KE.out.trans (KeepE.row (M.out.row i hil) hg (by decide))⟩
        have := M.out.write i hil (mkM k m i) (by unfold mkM; rw [← Hr.out, ← Ht.out]; exact ho) hg
        rwa [mkToM_step k m i hlt] at this
      case measure => simp [intOf]; omega
    · obtain rfl : i = m.length := by omega
      have h1 := ht
      rw [List.take_length] at h1
      rw [mkToM_end] at hM
      have M := hide hM
      have C := hide hC
      have H1 := hide h1
      clear hM hC ht h1
      go_wp2
      go_ret
      exact ⟨by rw [H1.out]; rfl, ⟨_, M.out⟩, C.out, KE.out⟩


set_option maxRecDepth 100000 in
set_option maxHeartbeats 1600000 in
theorem markRecipe_calls (vc vu : Value) (C : List ByteArray) (U : List (List Int)) (lo hi : Nat) (w : World) (h : OwnRc w lo hi vc vu C U) (hh : hi ≤ w.heap.size) (hC : C.length ≤ 2400) (hU : U.length + tot U ≤ 4000) :
    Calls Try.prog 55 #[.agg #[vc, vu], .int .i64 1] w fun e w' => e = .returned (.int .i64 ((1 + C.length + tot U : Nat) : Int)) ∧ OwnRc w' lo hi vc vu (marksT 1 C.length) (marksM ((1 + C.length : Nat) : Int) U) ∧ Chg lo hi w w' := by
  obtain ⟨a, c, b, d, rfl, rfl⟩ := h.sls
  have b0 := below_box w (.cells #[.slice a C.length c, .slice b U.length d] 27)
  have h1 : OwnT (w.alloc (.cells #[.slice a C.length c, .slice b U.length d] 27)) lo (.slice a C.length c) C := rowsBelow h.1.1 b0
  have H1 := hide h1
  have HT := hide h.1.2
  have M0 := hide (h.2.below b0)
  have C0 : Hid (Chg lo hi w (w.alloc (.cells #[.slice a C.length c, .slice b U.length d] 27))) := Chg.ofAlloc w _
  have X0 : Hid (BoxAt _ _ _ _) := hide (BoxAt.new w #[.slice a C.length c, .slice b U.length d] 27)
  clear b0 h h1
  go_enter Try.func55, Try.ntmps55
  go_wp2_with fail
  refine (markStringS_calls _ C 1 lo _ H1.out (by decide) (by decide) (by omega)).mono ?_
  rintro e w1 ⟨rfl, o1, g1⟩
  have c1 : Chg lo hi _ w1 := Chg.ofGrown g1 (fun j hj => ⟨(World.ownsRow.lt H1.out j hj).1, HT.out j hj⟩)
  have X1 := hide (X0.out.chg c1 (.inr hh))
  obtain ⟨x0, x1⟩ := X1.out.c2
  obtain ⟨vs, mv⟩ := M0.out
  have m1 : MatV w1 lo hi (.slice b U.length d) vs U :=
    ⟨mv.len, World.ownsRow.kept mv.head g1 (types_apart mv.head H1.out (by decide)), fun i hi' => World.ownsRow.kept (mv.row i hi') g1 (types_apart (mv.row i hi') H1.out (by decide)), mv.top, mv.tops, mv.apart⟩
  have M1 : Hid (Mat w1 lo hi (.slice b U.length d) U) := ⟨vs, m1⟩
  have O1 := hide o1
  have C1 := hide (C0.out.trans c1)
  clear o1 g1 c1 mv m1 M0 H1 X0 C0
  obtain ⟨kk, hkk⟩ : ∃ kk : Nat, kk = 1 + C.length := ⟨_, rfl⟩
  rw [← hkk]
  have KK := hide hkk
  have hkb : kk ≤ 2401 := by omega
  clear hkk
  go_wp2_with fail
  refine (markIntSS_keeps _ U (kk : Int) lo hi _ M1.out (by omega) (by omega) (by omega)).mono ?_
  rintro e w2 ⟨rfl, m2, c2, k2⟩
  have O2 := hide (KeepE.own O1.out k2)
  have M2 := hide m2
  have C2 := hide (C1.out.trans c2)
  clear m2 c2 k2 O1 M1 C1
  go_wp2
  go_ret
  refine ⟨ret_int9 (by have := KK.out; omega), ⟨⟨?_, HT.out⟩, by have := M2.out; rw [KK.out] at this; exact this⟩, C2.out⟩
  · have := O2.out
    unfold OwnT
    simpa only [marksT_length] using this

set_option maxRecDepth 100000 in
set_option maxHeartbeats 1600000 in
theorem heldRecipe_calls (vc vu : Value) (n : Nat) (U : List (List Int)) (w : World) (hc : RdT w vc (marksT 1 n)) (hu : RdM w vu (marksM ((1 + n : Nat) : Int) U)) (hn : n ≤ 2400) (hU : U.length + tot U ≤ 4000) :
    Calls Try.prog 56 #[.agg #[vc, vu], .int .i64 1] w fun e w' => e = .returned (.int .i64 ((1 + n + tot U : Nat) : Int)) ∧ Below w.heap.size w w' := by
  have b0 := below_box w (.cells #[vc, vu] 27)
  have RC := hide (hc.below b0)
  have RU := hide (hu.below b0)
  have X0 : Hid (BoxAt _ _ _ _) := hide (BoxAt.new w #[vc, vu] 27)
  have B0 := hide b0
  clear b0 hc hu
  go_enter Try.func56, Try.ntmps56
  go_wp2_with fail
  refine (heldStringS_calls _ n 1 _ RC.out (by decide) (by decide) (by omega)).mono ?_
  rintro e w1 ⟨rfl, b1⟩
  obtain ⟨x0, x1⟩ := (X0.out.below b1).c2
  have RU1 := hide (RU.out.below b1)
  have B1 := hide (B0.out.trans (b1.mono B0.out.size))
  clear b1 RU B0 X0
  obtain ⟨kk, hkk⟩ : ∃ kk : Nat, kk = 1 + n := ⟨_, rfl⟩
  rw [← hkk] at RU1 ⊢
  have KK := hide hkk
  have hkb : kk ≤ 2401 := by omega
  have e1 : ¬ ((kk : Int) < 0) := by omega
  have e2 : ¬ ((kk : Int) + (tot U : Int) < 0) := by omega
  clear hkk
  go_wp2_with fail
  refine (heldIntSS_calls _ U (kk : Int) _ RU1.out (by omega) (by omega) (by omega)).mono ?_
  rintro e w2 ⟨rfl, rfl⟩
  go_wp2
  go_ret
  exact ⟨ret_int9 (by have := KK.out; omega), B1.out⟩

end Go.Proofs.Ythmijjcddjlebaa
