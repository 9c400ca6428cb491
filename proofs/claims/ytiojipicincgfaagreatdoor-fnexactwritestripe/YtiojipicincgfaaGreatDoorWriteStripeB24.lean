/-
  Fields that a step has no use for: the program's test, call by call. The contract says what it asks. A step done on a disk of the call's own: what it leaves, and the program's doStep as a whole. Each contract says what it asks. A step of a disk: the program's StepDisk, call by call. The contract says what it asks. Where a stripe fits: the program's FitsStripe and its model's, at every disk and number. No condition but that the number is one of 64 bits.
-/
import Derived.Test.YtiojipicincgfaaGreatDoorWriteStripeB23
import Derived.Test.YtiojipicincgfaaGreatDoorWriteStripeB17
namespace Go.Proofs.YtiojipicincgfaaGreatDoor
open Go.RowKit
set_option linter.unusedVariables false

/-- A step has a kind, and nothing in the fields that this kind has no use for. -/
def lzOk (K A : Int) (T : ByteArray) (ks : List Int) : Prop :=
  ((K = 1 ∨ K = 4) ∧ ks = []) ∨ (K = 2 ∧ A = 0 ∧ T = ⟨#[]⟩ ∧ ks = []) ∨ (K = 3 ∧ A = 0 ∧ T = ⟨#[]⟩) ∨ ((K = 5 ∨ K = 6) ∧ T = ⟨#[]⟩ ∧ ks = [])
theorem lz_bool (K A : Int) (T : ByteArray) (ks : List Int) : ∃ g : Bool, g = true ↔ lzOk K A T ks := by
  by_cases hh : lzOk K A T ks
  · exact ⟨true, fun _ => hh, fun _ => rfl⟩
  · exact ⟨false, fun h => by simp at h, fun h => absurd h hh⟩
theorem bool_eq {x y : Bool} (h : x = true ↔ y = true) : x = y := by
  cases x <;> cases y <;> simp_all

set_option maxRecDepth 100000 in
set_option maxHeartbeats 1600000 in
theorem leaves_calls (K A : Int) (T : ByteArray) (vk : Value) (ks : List Int) (g : Bool) (w : World) (hv : Rd w vk ks) (hg : g = true ↔ lzOk K A T ks) :
    Calls Tryz.prog 77 #[.agg #[.int .i64 K, .int .i64 A, .string T, vk]] w fun e w' => e = .returned (.bool g) ∧ Below w.heap.size w w' := by
  obtain ⟨av, cv, rfl, mv, _⟩ := hv.sl
  have B0 := hide (below_box w (.cells #[.int .i64 K, .int .i64 A, .string T, .slice av ks.length cv] 52))
  have HG := hide hg
  clear hv hg
  obtain ⟨a, ha⟩ : ∃ a : Bool, a = (A == 0) := ⟨_, rfl⟩
  obtain ⟨t, ht⟩ : ∃ t : Bool, t = T.toList.isEmpty := ⟨_, rfl⟩
  obtain ⟨k, hk⟩ : ∃ k : Bool, k = ((ks.length : Int) == 0) := ⟨_, rfl⟩
  have QA : Hid (a = true ↔ A = 0) := by show _ ↔ _; rw [ha]; simp
  have QT : Hid (t = true ↔ T = ⟨#[]⟩) := by
    show _ ↔ _
    rw [ht]
    constructor
    · intro h
      by_cases e : T = ⟨#[]⟩
      · exact e
      · exact absurd (List.isEmpty_iff.1 h) (toList_ne e).1
    · rintro rfl
      rw [ByteArray.toList_eq]
      rfl
  have QK : Hid (k = true ↔ ks = []) := by
    show _ ↔ _
    rw [hk]
    constructor
    · intro h
      have : (ks.length : Int) = 0 := by simpa using h
      exact List.eq_nil_of_length_eq_zero (by omega)
    · rintro rfl
      rfl
  have HG2 : Hid (g = true ↔ (((K = 1 ∨ K = 4) ∧ k = true) ∨ (K = 2 ∧ a = true ∧ t = true ∧ k = true) ∨ (K = 3 ∧ a = true ∧ t = true) ∨ ((K = 5 ∨ K = 6) ∧ t = true ∧ k = true))) := by
    show _ ↔ _
    rw [HG.out, QA.out, QT.out, QK.out]
    rfl
  have HA := hide ha
  have HT := hide ht
  have HKK := hide hk
  clear ha ht hk HG QA QT QK
  go_enter Tryz.func77, Tryz.ntmps77
  go_wp2
  go_quiet (fail)
  rw [← HA.out, ← HT.out, ← HKK.out]
  clear HA HT HKK
  have X0 := hide (BoxAt.new w #[.int .i64 K, .int .i64 A, .string T, .slice av ks.length cv] 52)
  by_cases k1 : K = 1
  · subst k1
    go_wp2
    go_ret
    exact ⟨ret_bool (bool_eq (by rw [HG2.out]; simp)), below_drewN B0.out _⟩
  by_cases k4 : K = 4
  · subst k4
    clear k1
    go_wp2
    go_ret
    exact ⟨ret_bool (bool_eq (by rw [HG2.out]; simp)), below_drewN B0.out _⟩
  by_cases k2 : K = 2
  · subst k2
    clear k1 k4
    cases a <;> cases t <;> cases k
    all_goals
      go_wp2
      go_ret
      exact ⟨ret_bool (bool_eq (by rw [HG2.out]; simp)), below_drewN B0.out _⟩
  by_cases k3 : K = 3
  · subst k3
    clear k1 k4 k2
    cases a <;> cases t
    all_goals
      go_wp2
      go_ret
      exact ⟨ret_bool (bool_eq (by rw [HG2.out]; simp)), below_drewN B0.out _⟩
  by_cases k5 : K = 5
  · subst k5
    clear k1 k4 k2 k3
    cases t <;> cases k
    all_goals
      go_wp2
      go_ret
      exact ⟨ret_bool (bool_eq (by rw [HG2.out]; simp)), below_drewN B0.out _⟩
  by_cases k6 : K = 6
  · subst k6
    clear k1 k4 k2 k3 k5
    cases t <;> cases k
    all_goals
      go_wp2
      go_ret
      exact ⟨ret_bool (bool_eq (by rw [HG2.out]; simp)), below_drewN B0.out _⟩
  have e1 : (K == 1) = false := by simpa using k1
  have e2 : (K == 2) = false := by simpa using k2
  have e3 : (K == 3) = false := by simpa using k3
  have e4 : (K == 4) = false := by simpa using k4
  have e5 : (K == 5) = false := by simpa using k5
  have e6 : (K == 6) = false := by simpa using k6
  have G0 : Hid (g = false) := by
    show g = false
    cases g with
    | false => rfl
    | true =>
      have := HG2.out.1 rfl
      omega
  go_wp2
  go_ret
  exact ⟨ret_bool G0.out.symm, below_drewN B0.out _⟩
end Go.Proofs.YtiojipicincgfaaGreatDoor

namespace Go.Proofs.YtiojipicincgfaaGreatDoor
open Go.RowKit
set_option linter.unusedVariables false

/-- A step can be done on a disk of n sectors. -/
def stOk (P H : List ByteArray) (B : List Bool) (n : Nat) (K A : Int) (T : ByteArray) (ks : List Int) : Prop :=
  (K = 1 ∧ ks = [] ∧ (0 ≤ A ∧ A < (n : Int)) ∧ hoOk B A.toNat T) ∨ (K = 2 ∧ A = 0 ∧ T = ⟨#[]⟩ ∧ ks = []) ∨ (K = 3 ∧ A = 0 ∧ T = ⟨#[]⟩ ∧ kpOk H ks) ∨
  (K = 4 ∧ ks = [] ∧ (0 ≤ A ∧ A < (n : Int)) ∧ roOk P H A.toNat T) ∨ (K = 5 ∧ T = ⟨#[]⟩ ∧ ks = [] ∧ (0 ≤ A ∧ A < (n : Int))) ∨ (K = 6 ∧ T = ⟨#[]⟩ ∧ ks = [] ∧ (0 ≤ A ∧ A < (n : Int)) ∧ B.getD A.toNat false = true)
theorem st_bool (P H : List ByteArray) (B : List Bool) (n : Nat) (K A : Int) (T : ByteArray) (ks : List Int) : ∃ g : Bool, g = true ↔ stOk P H B n K A T ks := by
  by_cases hh : stOk P H B n K A T ks
  · exact ⟨true, fun _ => hh, fun _ => rfl⟩
  · exact ⟨false, fun h => by simp at h, fun h => absurd h hh⟩
theorem stOk_lz {P H : List ByteArray} {B : List Bool} {n : Nat} {K A : Int} {T : ByteArray} {ks : List Int} (h : stOk P H B n K A T ks) : lzOk K A T ks := by
  rcases h with ⟨h1, h2, _⟩ | ⟨h1, h2, h3, h4⟩ | ⟨h1, h2, h3, _⟩ | ⟨h1, h2, _⟩ | ⟨h1, h2, h3, _⟩ | ⟨h1, h2, h3, _⟩
  · exact .inl ⟨.inl h1, h2⟩
  · exact .inr (.inl ⟨h1, h2, h3, h4⟩)
  · exact .inr (.inr (.inl ⟨h1, h2, h3⟩))
  · exact .inl ⟨.inr h1, h2⟩
  · exact .inr (.inr (.inr ⟨.inl h1, h2, h3⟩))
  · exact .inr (.inr (.inr ⟨.inr h1, h2, h3⟩))
/-- What a step leaves. -/
def stP (P H : List ByteArray) (n : Nat) (K A : Int) (T : ByteArray) (ks : List Int) : List ByteArray :=
  if K = 2 then crP P H (hpl H n) else if K = 3 then crP P H ks else if K = 4 then P.set A.toNat (rotT (P.getD A.toNat ⟨#[]⟩) T) else if K = 6 then P.set A.toNat ⟨#[]⟩ else P
def stH (H : List ByteArray) (K A : Int) (T : ByteArray) : List ByteArray := if K = 1 then H.set A.toNat T else if K = 2 then crH H else if K = 3 then crH H else if K = 5 then H.set A.toNat ⟨#[]⟩ else H
def stB (B : List Bool) (K A : Int) : List Bool := if K = 5 then B.set A.toNat true else if K = 6 then B.set A.toNat false else B

/-- What both do with a step on a disk of the call's own. -/
def StepPost (lo hi : Nat) (p h b : Value) (P H : List ByteArray) (B : List Bool) (n : Nat) (K A : Int) (T : ByteArray) (ks : List Int) (ok : Bool) (w w' : World) : Prop :=
  (ok = true → DskV w' lo hi p h b (stP P H n K A T ks) (stH H K A T) (stB B K A)) ∧ Chg lo hi w w'

theorem doStep_calls (p h b vk : Value) (P H : List ByteArray) (B : List Bool) (K A : Int) (T : ByteArray) (ks : List Int) (lo hi n : Nat) (ok : Bool) (w : World) (d : DskV w lo hi p h b P H B) (hhi : hi ≤ w.heap.size) (hP : P.length = n) (hH : H.length = n) (hB : B.length = n) (hn : 0 < n ∧ n ≤ 24) (kv : ∀ w', Chg lo hi w w' → Rd w' vk ks)
    (lz : lzOk K A T ks) (hok : ok = true ↔ stOk P H B n K A T ks) (hT : T.size ≤ 1048576) (hkl : ks.length ≤ 1048576) (h28 : ∀ i, i < P.length → (P.getD i ⟨#[]⟩).size ≤ 28) :
    Calls Tryz.prog 79 #[.agg #[p, h, b], .agg #[.int .i64 K, .int .i64 A, .string T, vk]] w fun e w' => e = .returned (.bool ok) ∧ StepPost lo hi p h b P H B n K A T ks ok w w' := by
  have inn : (0 ≤ A ∧ A < (n : Int)) → ∃ k : Nat, A = (k : Int) ∧ k < n := fun h => ⟨A.toNat, by omega, by omega⟩
  rcases lz with ⟨hK, rfl⟩ | ⟨rfl, rfl, rfl, rfl⟩ | ⟨rfl, rfl, rfl⟩ | ⟨hK, rfl, rfl⟩
  · rcases hK with rfl | rfl
    · by_cases hA : 0 ≤ A ∧ A < (n : Int)
      · obtain ⟨k, rfl, hk⟩ := inn hA
        refine doStep_1 p h b vk P H B [] lo hi n k T ok w d hhi hP hH hB hn kv hk hT ?_
        rw [hok]
        unfold stOk
        simp [hk]
      · have e0 : ok = false := by
          cases ok with
          | false => rfl
          | true =>
            have := hok.1 rfl
            unfold stOk at this
            simp at this
            exact absurd this.1 hA
        subst e0
        exact (doStep_out1 p h b vk P H B [] lo hi n A T w d hhi hP hH hB hn kv hA).mono fun e w' ⟨h1, h2, h3⟩ => ⟨h1, fun h => by simp at h, h3⟩
    · by_cases hA : 0 ≤ A ∧ A < (n : Int)
      · obtain ⟨k, rfl, hk⟩ := inn hA
        refine doStep_4 p h b vk P H B [] lo hi n k T ok w d hhi hP hH hB hn kv hk hT (h28 k (by omega)) ?_
        rw [hok]
        unfold stOk
        simp [hk]
      · have e0 : ok = false := by
          cases ok with
          | false => rfl
          | true =>
            have := hok.1 rfl
            unfold stOk at this
            simp at this
            exact absurd this.1 hA
        subst e0
        exact (doStep_out4 p h b vk P H B [] lo hi n A T w d hhi hP hH hB hn kv hA).mono fun e w' ⟨h1, h2, h3⟩ => ⟨h1, fun h => by simp at h, h3⟩
  · have e0 : ok = true := hok.2 (.inr (.inl ⟨rfl, rfl, rfl, rfl⟩))
    subst e0
    exact doStep_sync p h b vk P H B [] lo hi n w d hhi hP hH hB hn kv
  · refine doStep_crash p h b vk P H B ks lo hi n ok w d hhi hP hH hB hn kv ?_ hkl
    rw [hok]
    unfold stOk
    simp
  · rcases hK with rfl | rfl
    · by_cases hA : 0 ≤ A ∧ A < (n : Int)
      · obtain ⟨k, rfl, hk⟩ := inn hA
        have e0 : ok = true := hok.2 (.inr (.inr (.inr (.inr (.inl ⟨rfl, rfl, rfl, hA⟩)))))
        subst e0
        exact doStep_5 p h b vk P H B [] lo hi n k w d hhi hP hH hB hn kv hk
      · have e0 : ok = false := by
          cases ok with
          | false => rfl
          | true =>
            have := hok.1 rfl
            unfold stOk at this
            simp at this
            exact absurd this hA
        subst e0
        exact (doStep_out5 p h b vk P H B [] lo hi n A ⟨#[]⟩ w d hhi hP hH hB hn kv hA).mono fun e w' ⟨h1, h2, h3⟩ => ⟨h1, fun h => by simp at h, h3⟩
    · by_cases hA : 0 ≤ A ∧ A < (n : Int)
      · obtain ⟨k, rfl, hk⟩ := inn hA
        refine doStep_6 p h b vk P H B [] lo hi n k ok w d hhi hP hH hB hn kv hk ?_
        refine bool_eq ?_
        rw [hok]
        unfold stOk
        simp [hk]
      · have e0 : ok = false := by
          cases ok with
          | false => rfl
          | true =>
            have := hok.1 rfl
            unfold stOk at this
            simp at this
            exact absurd this.1 hA
        subst e0
        exact (doStep_out6 p h b vk P H B [] lo hi n A ⟨#[]⟩ w d hhi hP hH hB hn kv hA).mono fun e w' ⟨h1, h2, h3⟩ => ⟨h1, fun h => by simp at h, h3⟩
end Go.Proofs.YtiojipicincgfaaGreatDoor

namespace Go.Proofs.YtiojipicincgfaaGreatDoor
open Go.RowKit
set_option linter.unusedVariables false

theorem Hand.three (w : World) (c1 c2 c3 : Array Value) (T1 T2 T3 : TypeId) : Hand w (((w.alloc (.cells c1 T1)).alloc (.cells c2 T2)).alloc (.cells c3 T3)) [TBox (w.heap.size + 1 + 1) c3 T3, TBox (w.heap.size + 1) c2 T2, TBox w.heap.size c1 T1] := by
  have h := (((Hand.start w).box c1 T1).box c2 T2).box c3 T3
  simpa only [World.size_alloc] using h
/-- What StepDisk answers. -/
def sdP (ok : Bool) (P H : List ByteArray) (K A : Int) (T : ByteArray) (ks : List Int) : List ByteArray := if ok = true then stP P H P.length K A T ks else []
def sdH (ok : Bool) (H : List ByteArray) (K A : Int) (T : ByteArray) : List ByteArray := if ok = true then stH H K A T else []
def sdB (ok : Bool) (B : List Bool) (K A : Int) : List Bool := if ok = true then stB B K A else []
theorem stP_len (P H : List ByteArray) (n : Nat) (K A : Int) (T : ByteArray) (ks : List Int) : (stP P H n K A T ks).length = P.length := by
  unfold stP
  split
  · exact crP_len _ _ _
  split
  · exact crP_len _ _ _
  split
  · exact List.length_set
  split
  · exact List.length_set
  · rfl
theorem stH_len (H : List ByteArray) (K A : Int) (T : ByteArray) : (stH H K A T).length = H.length := by
  unfold stH
  split
  · exact List.length_set
  split
  · simp [crH]
  split
  · simp [crH]
  split
  · exact List.length_set
  · rfl
theorem stB_len (B : List Bool) (K A : Int) : (stB B K A).length = B.length := by
  unfold stB
  split
  · exact List.length_set
  split
  · exact List.length_set
  · rfl
theorem sd_bool (P H : List ByteArray) (B : List Bool) (K A : Int) (T : ByteArray) (ks : List Int) : ∃ ok : Bool, ok = true ↔ (gkP P H B ∧ stOk P H B P.length K A T ks) := by
  by_cases hh : gkP P H B ∧ stOk P H B P.length K A T ks
  · exact ⟨true, fun _ => hh, fun _ => rfl⟩
  · exact ⟨false, fun h => by simp at h, fun h => absurd h hh⟩
theorem sd_len {P H : List ByteArray} {B : List Bool} {K A : Int} {T : ByteArray} {ks : List Int} {ok : Bool} (h : ok = true ↔ (gkP P H B ∧ stOk P H B P.length K A T ks)) : SzD (sdP ok P H K A T ks) (sdH ok H K A T) (sdB ok B K A) := by
  cases ok with
  | false => simp [SzD, sdP, sdH, sdB]
  | true =>
    obtain ⟨⟨h1, h2⟩, h3, h4, _⟩ := (h.1 rfl).1
    simp only [SzD, sdP, sdH, sdB, if_true, stP_len, stH_len, stB_len]
    omega

set_option maxRecDepth 100000 in
set_option maxHeartbeats 1600000 in
theorem stepDisk_calls (p h b vk : Value) (P H : List ByteArray) (B : List Bool) (K A : Int) (T : ByteArray) (ks : List Int) (ok : Bool) (w : World) (hok : ok = true ↔ (gkP P H B ∧ stOk P H B P.length K A T ks)) (hp : RdT w p P) (hh : RdT w h H) (hb : RdZ w b B) (hv : Rd w vk ks) (hT : T.size ≤ 1048576) (hkl : ks.length ≤ 1048576) :
    Calls Tryz.prog 25 #[.agg #[p, h, b], .agg #[.int .i64 K, .int .i64 A, .string T, vk]] w fun e w' => ∃ p' h' b', e = .returned (.tuple #[.agg #[p', h', b'], .bool ok]) ∧ DskV w' w.heap.size w'.heap.size p' h' b' (sdP ok P H K A T ks) (sdH ok H K A T) (sdB ok B K A) ∧ Below w.heap.size w w' := by
  have RP := hide hp
  have RH := hide hh
  have RB := hide hb
  have RV := hide hv
  have HOK := hide hok
  obtain ⟨g, hg⟩ := gk_bool' P H B
  have HG := hide hg
  have C := hide (fun W (h1 : RdT W p P) (h2 : RdT W h H) (h3 : RdZ W b B) => goodDisk_calls p h b P H B g W hg h1 h2 h3)
  obtain ⟨av, cv, rfl, _, _⟩ := hv.sl
  have A0 := hide (Hand.three w #[p, h, b] #[.int .i64 K, .int .i64 A, .string T, .slice av ks.length cv] nil3 27 52 27)
  clear hp hh hb hv hok hg
  cases g with
  | false =>
    obtain rfl : ok = false := by
      cases ok with
      | false => rfl
      | true => exact absurd (HG.out.2 (HOK.out.1 rfl).1) (by simp)
    go_enter Tryz.func25, Tryz.ntmps25
    go_wp2_with fail
    refine (C.out _ (RP.out.below A0.out.below) (RH.out.below A0.out.below) (RB.out.below A0.out.below)).mono ?_
    rintro e w1 ⟨rfl, q⟩
    have A1 := hide (A0.out.step q)
    clear q A0
    have xr := A1.out.atBox 0 rfl
    obtain ⟨d0, d1, d2⟩ := xr.c3
    have g0 := xr.frozen 0
    have g1 := xr.frozen 1
    have g2 := xr.frozen 2
    have A2 := hide (A1.out.store3 0 rfl (.slice none 0 0) (.slice none 0 0) (.slice none 0 0))
    clear xr
    go_wp2
    exact bodyPost_ret (res_dsk2 rfl _ _ (w.heap.size + 1 + 1) _ _ _ (0, 0) rfl (A2.out.atBox 0 rfl)) rfl ⟨_, _, _, rfl, DskV.nil _ _ _, A2.out.below⟩
  | true =>
  obtain ⟨z, hz⟩ := lz_bool K A T ks
  have HZ := hide hz
  have CZ := hide (fun W (h1 : Rd W (.slice av ks.length cv) ks) => leaves_calls K A T _ ks z W h1 hz)
  clear hz
  cases z with
  | false =>
    obtain rfl : ok = false := by
      cases ok with
      | false => rfl
      | true => exact absurd (HZ.out.2 (stOk_lz (HOK.out.1 rfl).2)) (by simp)
    go_enter Tryz.func25, Tryz.ntmps25
    go_wp2_with fail
    refine (C.out _ (RP.out.below A0.out.below) (RH.out.below A0.out.below) (RB.out.below A0.out.below)).mono ?_
    rintro e w1 ⟨rfl, q⟩
    have A1 := hide (A0.out.step q)
    clear q A0
    obtain ⟨y0, y1, y2, y3⟩ := (A1.out.atBox 1 rfl).c4
    go_wp2_with fail
    refine (CZ.out _ (RV.out.below A1.out.below)).mono ?_
    rintro e w2 ⟨rfl, q⟩
    have A2 := hide (A1.out.step q)
    clear q A1 y0 y1 y2 y3
    have xr := A2.out.atBox 0 rfl
    obtain ⟨d0, d1, d2⟩ := xr.c3
    have g0 := xr.frozen 0
    have g1 := xr.frozen 1
    have g2 := xr.frozen 2
    have A3 := hide (A2.out.store3 0 rfl (.slice none 0 0) (.slice none 0 0) (.slice none 0 0))
    clear xr
    go_wp2
    exact bodyPost_ret (res_dsk2 rfl _ _ (w.heap.size + 1 + 1) _ _ _ (0, 0) rfl (A3.out.atBox 0 rfl)) rfl ⟨_, _, _, rfl, DskV.nil _ _ _, A3.out.below⟩
  | true =>
  have hgk := HG.out.1 rfl
  obtain ⟨⟨hn1, hn2⟩, hl2, hl3, h28, hh28, _⟩ := hgk
  obtain ⟨n, hn⟩ : ∃ n, n = P.length := ⟨_, rfl⟩
  have LP : Hid (P.length = n) := hn.symm
  have LH : Hid (H.length = n) := hl2.trans hn.symm
  have LB : Hid (B.length = n) := hl3.trans hn.symm
  have H28 := hide h28
  have HH28 : Hid (∀ i, i < H.length → (H.getD i ⟨#[]⟩).size ≤ 28) := fun i hi => hh28 i (by rw [← hl2]; exact hi)
  have nn : 0 < n ∧ n ≤ 24 := ⟨by omega, by omega⟩
  have HK : Hid (ok = true ↔ stOk P H B n K A T ks) := by
    show _ ↔ _
    rw [hn]
    exact ⟨fun h => (HOK.out.1 h).2, fun h => HOK.out.2 ⟨HG.out.1 rfl, h⟩⟩
  have LZ : Hid (lzOk K A T ks) := HZ.out.1 rfl
  have EP : Hid (stP P H P.length K A T ks = stP P H n K A T ks) := by show _ = _; rw [hn]
  clear hn1 hn2 hl2 hl3 h28 hh28 hn HOK HG HZ
  go_enter Tryz.func25, Tryz.ntmps25
  go_wp2_with fail
  refine (C.out _ (RP.out.below A0.out.below) (RH.out.below A0.out.below) (RB.out.below A0.out.below)).mono ?_
  rintro e w1 ⟨rfl, q⟩
  have A1 := hide (A0.out.step q)
  clear q A0 C
  obtain ⟨y0, y1, y2, y3⟩ := (A1.out.atBox 1 rfl).c4
  go_wp2_with fail
  refine (CZ.out _ (RV.out.below A1.out.below)).mono ?_
  rintro e w2 ⟨rfl, q⟩
  have A2 := hide (A1.out.step q)
  clear q A1 y0 y1 y2 y3 CZ
  obtain ⟨c0, c1, c2⟩ := (A2.out.atBox 2 rfl).c3
  go_wp2_with fail
  refine (copyDisk_calls p h b P H B _ (RP.out.below A2.out.below) (RH.out.below A2.out.below) (RB.out.below A2.out.below) (by rw [LP.out]; exact nn) (by rw [LH.out]; exact nn) (by rw [LB.out]; exact nn) H28.out HH28.out).mono ?_
  rintro e w3 ⟨p2, h2, b2, rfl, d, q⟩
  obtain ⟨ap2, cp2, ah2, ch2, ab2, cb2, rfl, rfl, rfl⟩ := d.sl
  have lt2 := q.size
  have A3 := hide ((A2.out.add q (TDsk.st _ _ _ _ _ _) d).box #[.slice ap2 P.length cp2, .slice ah2 H.length ch2, .slice ab2 B.length cb2] 27)
  have hlt := (A2.out.atBox 0 rfl).lt
  clear q d A2 c0 c1 c2
  obtain ⟨lo, hi, d2, lw, hw, put⟩ := A3.out.open 1 rfl
  have D2 : Hid (DskV _ lo hi _ _ _ P H B) := d2
  have PUT := hide put
  clear d2 put
  obtain ⟨y0, y1, y2, y3⟩ := (A3.out.atBox 3 rfl).c4
  go_wp2_with fail
  refine (doStep_calls _ _ _ _ P H B K A T ks lo hi n ok _ D2.out hw LP.out LH.out LB.out nn (fun w' hc => RV.out.below (A3.out.below.trans (hc.below lw A3.out.below.size))) LZ.out HK.out hT hkl H28.out).mono ?_
  rintro e w4 ⟨rfl, d3, c3⟩
  cases ok with
  | false =>
    have A4 := hide (PUT.out w4 (fun _ _ _ => True) (fun _ _ _ _ _ _ _ _ _ => trivial) trivial c3)
    clear d3 c3 A3 D2 PUT lw hw y0 y1 y2 y3
    have xr := A4.out.atBox 2 rfl
    obtain ⟨d0, d1, d2⟩ := xr.c3
    have g0 := xr.frozen 0
    have g1 := xr.frozen 1
    have g2 := xr.frozen 2
    have A5 := hide (A4.out.store3 2 rfl (.slice none 0 0) (.slice none 0 0) (.slice none 0 0))
    clear xr
    go_wp2
    exact bodyPost_ret (res_dsk2 rfl _ _ (w.heap.size + 1 + 1) _ _ _ (0, 0) rfl (A5.out.atBox 2 rfl)) rfl ⟨_, _, _, rfl, DskV.nil _ _ _, A5.out.below⟩
  | true =>
    have A4 := hide (PUT.out w4 (TDsk _ _ _ _ _ _) (TDsk.st _ _ _ _ _ _) (d3 rfl) c3)
    clear d3 c3 A3 D2 PUT lw hw y0 y1 y2 y3
    have xr := A4.out.atBox 2 rfl
    obtain ⟨d0, d1, d2⟩ := xr.c3
    have g0 := xr.frozen 0
    have g1 := xr.frozen 1
    have g2 := xr.frozen 2
    obtain ⟨c0, c1, c2⟩ := (A4.out.atBox 0 rfl).c3
    have A5 := hide (A4.out.store3 2 rfl (.slice ap2 P.length cp2) (.slice ah2 H.length ch2) (.slice ab2 B.length cb2))
    clear xr
    go_wp2
    refine bodyPost_ret (res_dsk2 rfl _ _ (w.heap.size + 1 + 1) _ _ _ (0, 0) rfl (A5.out.atBox 2 rfl)) rfl ⟨_, _, _, rfl, ?_, A5.out.below⟩
    show DskV _ _ _ _ _ _ (if true = true then stP P H P.length K A T ks else []) _ _
    rw [if_pos rfl, EP.out]
    exact A5.out.wide 1 rfl
end Go.Proofs.YtiojipicincgfaaGreatDoor

namespace Go.Proofs.YtiojipicincgfaaGreatDoor
open Go.RowKit
set_option linter.unusedVariables false

/-- A stripe fits from A on. -/
def ftP (P : List ByteArray) (A : Int) : Prop := 0 ≤ A ∧ A ≤ (P.length : Int) - 5
theorem ft_bool (P H : List ByteArray) (B : List Bool) (A : Int) : ∃ f : Bool, f = true ↔ (gkP P H B ∧ ftP P A) := by
  by_cases h : gkP P H B ∧ ftP P A
  · exact ⟨true, by simp [h]⟩
  · exact ⟨false, by simp [h]⟩

set_option maxRecDepth 100000 in
set_option maxHeartbeats 1600000 in
theorem fitsStripe_calls (p h b : Value) (P H : List ByteArray) (B : List Bool) (A : Int) (g f : Bool) (w : World) (hg : g = true ↔ gkP P H B) (hf : f = true ↔ (gkP P H B ∧ ftP P A)) (hwf : (Lit.int .i64 A).wf = true) (hp : RdT w p P) (hh : RdT w h H) (hb : RdZ w b B) :
    Calls Tryz.prog 40 #[.agg #[p, h, b], .int .i64 A] w fun e w' => e = .returned (.tuple #[.bool f, .bool g]) ∧ Below w.heap.size w w' := by
  have HG := hide hg
  have HF := hide hf
  have RP := hide hp
  have RH := hide hh
  have RB := hide hb
  have A0 := hide ((Hand.start w).box #[p, h, b] 27)
  have C := hide (fun W (h1 : RdT W p P) (h2 : RdT W h H) (h3 : RdZ W b B) => goodDisk_calls p h b P H B g W hg h1 h2 h3)
  obtain ⟨ap, cp, rfl, mp, _⟩ := hp.sl
  obtain ⟨ah, ch, rfl, mh, _⟩ := hh.sl
  obtain ⟨ab, cb, rfl, mb, _⟩ := hb.sl
  clear hg hf hp hh hb mp mh mb
  cases g with
  | false =>
    have ng : Hid (¬ gkP P H B) := fun h => by have := HG.out.2 h; simp at this
    have ff : f = false := by
      cases f with
      | false => rfl
      | true => exact absurd (HF.out.1 rfl).1 ng.out
    subst ff
    go_enter Tryz.func40, Tryz.ntmps40
    go_wp2_with fail
    refine (C.out _ (RP.out.below A0.out.below) (RH.out.below A0.out.below) (RB.out.below A0.out.below)).mono ?_
    rintro e w1 ⟨rfl, q⟩
    have A1 := hide (A0.out.step q)
    clear q A0
    go_wp2
    go_ret2
    exact ⟨rfl, A1.out.below⟩
  | true =>
  have GK := hide (HG.out.1 rfl)
  have n24 : P.length ≤ 24 := GK.out.1.2
  have HF2 : Hid (f = true ↔ ftP P A) := ⟨fun h => (HF.out.1 h).2, fun h => HF.out.2 ⟨GK.out, h⟩⟩
  clear HG HF
  unfold ftP at HF2
  by_cases h0 : 0 ≤ A
  case neg =>
    have ff : f = false := by
      cases f with
      | false => rfl
      | true => exact absurd (HF2.out.1 rfl).1 h0
    subst ff
    go_enter Tryz.func40, Tryz.ntmps40
    go_wp2_with fail
    refine (C.out _ (RP.out.below A0.out.below) (RH.out.below A0.out.below) (RB.out.below A0.out.below)).mono ?_
    rintro e w1 ⟨rfl, q⟩
    have A1 := hide (A0.out.step q)
    clear q A0
    obtain ⟨c0, c1, c2⟩ := (A1.out.atBox 0 rfl).c3
    go_wp2
    go_ret2
    exact ⟨rfl, A1.out.below⟩
  have ff : f = decide (A ≤ (P.length : Int) - 5) := by
    cases f with
    | false => exact (decide_eq_false (fun h => by have := HF2.out.2 ⟨h0, h⟩; simp at this)).symm
    | true => exact (decide_eq_true (HF2.out.1 rfl).2).symm
  by_cases h5 : A ≤ (P.length : Int) - 5
  · rw [decide_eq_true h5] at ff
    subst ff
    go_enter Tryz.func40, Tryz.ntmps40
    go_wp2_with fail
    refine (C.out _ (RP.out.below A0.out.below) (RH.out.below A0.out.below) (RB.out.below A0.out.below)).mono ?_
    rintro e w1 ⟨rfl, q⟩
    have A1 := hide (A0.out.step q)
    clear q A0
    obtain ⟨c0, c1, c2⟩ := (A1.out.atBox 0 rfl).c3
    go_wp2
    go_ret2
    exact ⟨rfl, A1.out.below⟩
  · rw [decide_eq_false h5] at ff
    subst ff
    have hd : decide (A ≤ (P.length : Int) - 5) = false := decide_eq_false h5
    go_enter Tryz.func40, Tryz.ntmps40
    go_wp2_with fail
    refine (C.out _ (RP.out.below A0.out.below) (RH.out.below A0.out.below) (RB.out.below A0.out.below)).mono ?_
    rintro e w1 ⟨rfl, q⟩
    have A1 := hide (A0.out.step q)
    clear q A0
    obtain ⟨c0, c1, c2⟩ := (A1.out.atBox 0 rfl).c3
    go_wp2
    go_ret2
    exact ⟨rfl, A1.out.below⟩


set_option maxRecDepth 100000 in
set_option maxHeartbeats 400000 in
theorem l8Fits_calls (ap : Option Addr) (cp : Nat) (h b : Value) (P : List ByteArray) (A : Int) (f : Bool) (w : World) (hf : f = true ↔ ftP P A) (h24 : P.length ≤ 24) :
    Calls Tryz.prog 45 #[.agg #[.slice ap P.length cp, h, b], .int .i64 A] w fun e w' => e = .returned (.bool f) ∧ Below w.heap.size w w' := by
  unfold ftP at hf
  have HF2 := hide hf
  have HB := hide (below_box w (.cells #[.slice ap P.length cp, h, b] 27))
  clear hf
  by_cases h0 : 0 ≤ A
  case neg =>
    have ff : f = false := by
      cases f with
      | false => rfl
      | true => exact absurd (HF2.out.1 rfl).1 h0
    subst ff
    go_enter Tryz.func45, Tryz.ntmps45
    go_wp2
    go_ret
    exact ⟨rfl, HB.out⟩
  have ff : f = decide (A ≤ (P.length : Int) - 5) := by
    cases f with
    | false => exact (decide_eq_false (fun h => by have := HF2.out.2 ⟨h0, h⟩; simp at this)).symm
    | true => exact (decide_eq_true (HF2.out.1 rfl).2).symm
  by_cases h5 : A ≤ (P.length : Int) - 5
  · rw [decide_eq_true h5] at ff
    subst ff
    go_enter Tryz.func45, Tryz.ntmps45
    go_wp2
    go_ret
    exact ⟨rfl, HB.out⟩
  · rw [decide_eq_false h5] at ff
    subst ff
    have hd : decide (A ≤ (P.length : Int) - 5) = false := decide_eq_false h5
    go_enter Tryz.func45, Tryz.ntmps45
    go_wp2
    go_ret
    exact ⟨rfl, HB.out⟩

set_option maxRecDepth 100000 in
set_option maxHeartbeats 1600000 in
theorem sFitsStripe_calls (p h b : Value) (P H : List ByteArray) (B : List Bool) (A : Int) (g f : Bool) (w : World) (hg : g = true ↔ gkP P H B) (hf : f = true ↔ (gkP P H B ∧ ftP P A)) (hwf : (Lit.int .i64 A).wf = true) (hp : RdT w p P) (hh : RdT w h H) (hb : RdZ w b B) :
    Calls Tryz.prog 41 #[.agg #[p, h, b], .int .i64 A] w fun e w' => e = .returned (.tuple #[.bool f, .bool g]) ∧ Below w.heap.size w w' := by
  have HG := hide hg
  have HF := hide hf
  have RP := hide hp
  have RH := hide hh
  have RB := hide hb
  have A0 := hide ((Hand.start w).box #[p, h, b] 27)
  have C := hide (fun W (h1 : RdT W p P) (h2 : RdT W h H) (h3 : RdZ W b B) => sGoodDisk_calls p h b P H B g W hg h1 h2 h3)
  obtain ⟨ap, cp, rfl, mp, _⟩ := hp.sl
  obtain ⟨ah, ch, rfl, mh, _⟩ := hh.sl
  obtain ⟨ab, cb, rfl, mb, _⟩ := hb.sl
  clear hg hf hp hh hb mp mh mb
  cases g with
  | false =>
    have ng : Hid (¬ gkP P H B) := fun h => by have := HG.out.2 h; simp at this
    have ff : f = false := by
      cases f with
      | false => rfl
      | true => exact absurd (HF.out.1 rfl).1 ng.out
    subst ff
    go_enter Tryz.func41, Tryz.ntmps41
    go_wp2_with fail
    refine (C.out _ (RP.out.below A0.out.below) (RH.out.below A0.out.below) (RB.out.below A0.out.below)).mono ?_
    rintro e w1 ⟨rfl, q⟩
    have A1 := hide (A0.out.step q)
    clear q A0
    go_wp2
    go_ret2
    exact ⟨rfl, A1.out.below⟩
  | true =>
  have GK := hide (HG.out.1 rfl)
  have n24 : P.length ≤ 24 := GK.out.1.2
  have HF2 : Hid (f = true ↔ ftP P A) := ⟨fun h => (HF.out.1 h).2, fun h => HF.out.2 ⟨GK.out, h⟩⟩
  clear HG HF
  go_enter Tryz.func41, Tryz.ntmps41
  go_wp2_with fail
  refine (C.out _ (RP.out.below A0.out.below) (RH.out.below A0.out.below) (RB.out.below A0.out.below)).mono ?_
  rintro e w1 ⟨rfl, q⟩
  have A1 := hide (A0.out.step q)
  clear q A0
  obtain ⟨c0, c1, c2⟩ := (A1.out.atBox 0 rfl).c3
  go_wp2_with fail
  refine (l8Fits_calls _ _ _ _ P A f _ HF2.out n24).mono ?_
  rintro e w2 ⟨rfl, q⟩
  have A2 := hide (A1.out.step q)
  clear q A1 c0 c1 c2
  go_wp2
  go_ret2
  exact ⟨rfl, A2.out.below⟩

end Go.Proofs.YtiojipicincgfaaGreatDoor
