/-
  Fields that a step has no use for: the program's test, call by call. The contract says what it asks. A step done on a disk of the call's own: what it leaves, and the program's doStep as a whole. Each contract says what it asks. A step of a disk: the program's StepDisk, call by call. The contract says what it asks. What lies apart stays where a call writes elsewhere: a row of the call's own beside a disk. No call is walked here. A step handed over, measured, held against another and marked: call by call. Each contract says what it asks. What a stripe's sectors tell: which are lost, their Epochs, the right one, those others. Mathematics; no call is walked here.
-/
import Derived.Test.YtpgmocogffolaaaRotInB13
import Derived.Test.YtpgmocogffolaaaRotInB8
namespace Go.Proofs.Ytpgmocogffolaaa
open Go.RowKit
set_option linter.unusedVariables false

/-- A step has a kind, and nothing in the fields that this kind has no use for. -/
def lzOk (K A : Int) (T : ByteArray) (ks : List Int) : Prop :=
  ((K = 1 ∨ K = 4) ∧ ks = []) ∨ (K = 2 ∧ A = 0 ∧ T = ⟨#[]⟩ ∧ ks = []) ∨ (K = 3 ∧ A = 0 ∧ T = ⟨#[]⟩) ∨ ((K = 5 ∨ K = 6) ∧ T = ⟨#[]⟩ ∧ ks = [])
theorem lz_bool (K A : Int) (T : ByteArray) (ks : List Int) : ∃ g : Bool, g = true ↔ lzOk K A T ks := by
  by_cases hh : lzOk K A T ks
  · exact ⟨true, fun _ => hh, fun _ => rfl⟩
  · exact ⟨false, fun h => by simp at h, fun h => absurd h hh⟩
theorem bool_eq {x y : Bool} (h : x = true ↔ y = true) : x = y := by
  cases x <;> cases y <;> simp_all

end Go.Proofs.Ytpgmocogffolaaa

namespace Go.Proofs.Ytpgmocogffolaaa
open Go.RowKit
set_option linter.unusedVariables false

/-- A step can be done on a disk of n sectors. -/
def stOk (P H : List ByteArray) (B : List Bool) (n : Nat) (K A : Int) (T : ByteArray) (ks : List Int) : Prop :=
  (K = 1 ∧ ks = [] ∧ (0 ≤ A ∧ A < (n : Int)) ∧ hoOk B A.toNat T) ∨ (K = 2 ∧ A = 0 ∧ T = ⟨#[]⟩ ∧ ks = []) ∨ (K = 3 ∧ A = 0 ∧ T = ⟨#[]⟩ ∧ kpOk H ks) ∨
  (K = 4 ∧ ks = [] ∧ (0 ≤ A ∧ A < (n : Int)) ∧ roOk P H A.toNat T) ∨ (K = 5 ∧ T = ⟨#[]⟩ ∧ ks = [] ∧ (0 ≤ A ∧ A < (n : Int))) ∨ (K = 6 ∧ T = ⟨#[]⟩ ∧ ks = [] ∧ (0 ≤ A ∧ A < (n : Int)) ∧ B.getD A.toNat false = true)
theorem st_bool (P H : List ByteArray) (B : List Bool) (n : Nat) (K A : Int) (T : ByteArray) (ks : List Int) : ∃ g : Bool, g = true ↔ stOk P H B n K A T ks := by
  by_cases hh : stOk P H B n K A T ks
  · exact ⟨true, fun _ => hh, fun _ => rfl⟩
  · exact ⟨false, fun h => by simp at h, fun h => absurd h hh⟩
theorem stOk_lz {P H : List ByteArray} {B : List Bool} {n : Nat} {K A : Int} {T : ByteArray} {ks : List Int} (h : stOk P H B n K A T ks) : lzOk K A T ks := by
  rcases h with ⟨h1, h2, _⟩ | ⟨h1, h2, h3, h4⟩ | ⟨h1, h2, h3, _⟩ | ⟨h1, h2, _⟩ | ⟨h1, h2, h3, _⟩ | ⟨h1, h2, h3, _⟩
  · exact .inl ⟨.inl h1, h2⟩
  · exact .inr (.inl ⟨h1, h2, h3, h4⟩)
  · exact .inr (.inr (.inl ⟨h1, h2, h3⟩))
  · exact .inl ⟨.inr h1, h2⟩
  · exact .inr (.inr (.inr ⟨.inl h1, h2, h3⟩))
  · exact .inr (.inr (.inr ⟨.inr h1, h2, h3⟩))
/-- What a step leaves. -/
def stP (P H : List ByteArray) (n : Nat) (K A : Int) (T : ByteArray) (ks : List Int) : List ByteArray :=
  if K = 2 then crP P H (hpl H n) else if K = 3 then crP P H ks else if K = 4 then P.set A.toNat (rotT (P.getD A.toNat ⟨#[]⟩) T) else if K = 6 then P.set A.toNat ⟨#[]⟩ else P
def stH (H : List ByteArray) (K A : Int) (T : ByteArray) : List ByteArray := if K = 1 then H.set A.toNat T else if K = 2 then crH H else if K = 3 then crH H else if K = 5 then H.set A.toNat ⟨#[]⟩ else H
def stB (B : List Bool) (K A : Int) : List Bool := if K = 5 then B.set A.toNat true else if K = 6 then B.set A.toNat false else B

/-- What both do with a step on a disk of the call's own. -/
def StepPost (lo hi : Nat) (p h b : Value) (P H : List ByteArray) (B : List Bool) (n : Nat) (K A : Int) (T : ByteArray) (ks : List Int) (ok : Bool) (w w' : World) : Prop :=
  (ok = true → DskV w' lo hi p h b (stP P H n K A T ks) (stH H K A T) (stB B K A)) ∧ Chg lo hi w w'

theorem doStep_calls (p h b vk : Value) (P H : List ByteArray) (B : List Bool) (K A : Int) (T : ByteArray) (ks : List Int) (lo hi n : Nat) (ok : Bool) (w : World) (d : DskV w lo hi p h b P H B) (hhi : hi ≤ w.heap.size) (hP : P.length = n) (hH : H.length = n) (hB : B.length = n) (hn : 0 < n ∧ n ≤ 24) (kv : ∀ w', Chg lo hi w w' → Rd w' vk ks)
    (lz : lzOk K A T ks) (hok : ok = true ↔ stOk P H B n K A T ks) (hT : T.size ≤ 1048576) (hkl : ks.length ≤ 1048576) (h28 : ∀ i, i < P.length → (P.getD i ⟨#[]⟩).size ≤ 28) :
    Calls Try.prog 100 #[.agg #[p, h, b], .agg #[.int .i64 K, .int .i64 A, .string T, vk]] w fun e w' => e = .returned (.bool ok) ∧ StepPost lo hi p h b P H B n K A T ks ok w w' := by
  have inn : (0 ≤ A ∧ A < (n : Int)) → ∃ k : Nat, A = (k : Int) ∧ k < n := fun h => ⟨A.toNat, by omega, by omega⟩
  rcases lz with ⟨hK, rfl⟩ | ⟨rfl, rfl, rfl, rfl⟩ | ⟨rfl, rfl, rfl⟩ | ⟨hK, rfl, rfl⟩
  · rcases hK with rfl | rfl
    · by_cases hA : 0 ≤ A ∧ A < (n : Int)
      · obtain ⟨k, rfl, hk⟩ := inn hA
        refine doStep_1 p h b vk P H B [] lo hi n k T ok w d hhi hP hH hB hn kv hk hT ?_
        rw [hok]
        unfold stOk
        simp [hk]
      · have e0 : ok = false := by
          cases ok with
          | false => rfl
          | true =>
            have := hok.1 rfl
            unfold stOk at this
            simp at this
            exact absurd this.1 hA
        subst e0
        exact (doStep_out1 p h b vk P H B [] lo hi n A T w d hhi hP hH hB hn kv hA).mono fun e w' ⟨h1, h2, h3⟩ => ⟨h1, fun h => by simp at h, h3⟩
    · by_cases hA : 0 ≤ A ∧ A < (n : Int)
      · obtain ⟨k, rfl, hk⟩ := inn hA
        refine doStep_4 p h b vk P H B [] lo hi n k T ok w d hhi hP hH hB hn kv hk hT (h28 k (by omega)) ?_
        rw [hok]
        unfold stOk
        simp [hk]
      · have e0 : ok = false := by
          cases ok with
          | false => rfl
          | true =>
            have := hok.1 rfl
            unfold stOk at this
            simp at this
            exact absurd this.1 hA
        subst e0
        exact (doStep_out4 p h b vk P H B [] lo hi n A T w d hhi hP hH hB hn kv hA).mono fun e w' ⟨h1, h2, h3⟩ => ⟨h1, fun h => by simp at h, h3⟩
  · have e0 : ok = true := hok.2 (.inr (.inl ⟨rfl, rfl, rfl, rfl⟩))
    subst e0
    exact doStep_sync p h b vk P H B [] lo hi n w d hhi hP hH hB hn kv
  · refine doStep_crash p h b vk P H B ks lo hi n ok w d hhi hP hH hB hn kv ?_ hkl
    rw [hok]
    unfold stOk
    simp
  · rcases hK with rfl | rfl
    · by_cases hA : 0 ≤ A ∧ A < (n : Int)
      · obtain ⟨k, rfl, hk⟩ := inn hA
        have e0 : ok = true := hok.2 (.inr (.inr (.inr (.inr (.inl ⟨rfl, rfl, rfl, hA⟩)))))
        subst e0
        exact doStep_5 p h b vk P H B [] lo hi n k w d hhi hP hH hB hn kv hk
      · have e0 : ok = false := by
          cases ok with
          | false => rfl
          | true =>
            have := hok.1 rfl
            unfold stOk at this
            simp at this
            exact absurd this hA
        subst e0
        exact (doStep_out5 p h b vk P H B [] lo hi n A ⟨#[]⟩ w d hhi hP hH hB hn kv hA).mono fun e w' ⟨h1, h2, h3⟩ => ⟨h1, fun h => by simp at h, h3⟩
    · by_cases hA : 0 ≤ A ∧ A < (n : Int)
      · obtain ⟨k, rfl, hk⟩ := inn hA
        refine doStep_6 p h b vk P H B [] lo hi n k ok w d hhi hP hH hB hn kv hk ?_
        refine bool_eq ?_
        rw [hok]
        unfold stOk
        simp [hk]
      · have e0 : ok = false := by
          cases ok with
          | false => rfl
          | true =>
            have := hok.1 rfl
            unfold stOk at this
            simp at this
            exact absurd this.1 hA
        subst e0
        exact (doStep_out6 p h b vk P H B [] lo hi n A ⟨#[]⟩ w d hhi hP hH hB hn kv hA).mono fun e w' ⟨h1, h2, h3⟩ => ⟨h1, fun h => by simp at h, h3⟩
end Go.Proofs.Ytpgmocogffolaaa

namespace Go.Proofs.Ytpgmocogffolaaa
open Go.RowKit
set_option linter.unusedVariables false

theorem Hand.three (w : World) (c1 c2 c3 : Array Value) (T1 T2 T3 : TypeId) : Hand w (((w.alloc (.cells c1 T1)).alloc (.cells c2 T2)).alloc (.cells c3 T3)) [TBox (w.heap.size + 1 + 1) c3 T3, TBox (w.heap.size + 1) c2 T2, TBox w.heap.size c1 T1] := by
  have h := (((Hand.start w).box c1 T1).box c2 T2).box c3 T3
  simpa only [World.size_alloc] using h
/-- What StepDisk answers. -/
def sdP (ok : Bool) (P H : List ByteArray) (K A : Int) (T : ByteArray) (ks : List Int) : List ByteArray := if ok = true then stP P H P.length K A T ks else []
def sdH (ok : Bool) (H : List ByteArray) (K A : Int) (T : ByteArray) : List ByteArray := if ok = true then stH H K A T else []
def sdB (ok : Bool) (B : List Bool) (K A : Int) : List Bool := if ok = true then stB B K A else []
theorem stP_len (P H : List ByteArray) (n : Nat) (K A : Int) (T : ByteArray) (ks : List Int) : (stP P H n K A T ks).length = P.length := by
  unfold stP
  split
  · exact crP_len _ _ _
  split
  · exact crP_len _ _ _
  split
  · exact List.length_set
  split
  · exact List.length_set
  · rfl
theorem stH_len (H : List ByteArray) (K A : Int) (T : ByteArray) : (stH H K A T).length = H.length := by
  unfold stH
  split
  · exact List.length_set
  split
  · simp [crH]
  split
  · simp [crH]
  split
  · exact List.length_set
  · rfl
theorem stB_len (B : List Bool) (K A : Int) : (stB B K A).length = B.length := by
  unfold stB
  split
  · exact List.length_set
  split
  · exact List.length_set
  · rfl
theorem sd_bool (P H : List ByteArray) (B : List Bool) (K A : Int) (T : ByteArray) (ks : List Int) : ∃ ok : Bool, ok = true ↔ (gkP P H B ∧ stOk P H B P.length K A T ks) := by
  by_cases hh : gkP P H B ∧ stOk P H B P.length K A T ks
  · exact ⟨true, fun _ => hh, fun _ => rfl⟩
  · exact ⟨false, fun h => by simp at h, fun h => absurd h hh⟩
theorem sd_len {P H : List ByteArray} {B : List Bool} {K A : Int} {T : ByteArray} {ks : List Int} {ok : Bool} (h : ok = true ↔ (gkP P H B ∧ stOk P H B P.length K A T ks)) : SzD (sdP ok P H K A T ks) (sdH ok H K A T) (sdB ok B K A) := by
  cases ok with
  | false => simp [SzD, sdP, sdH, sdB]
  | true =>
    obtain ⟨⟨h1, h2⟩, h3, h4, _⟩ := (h.1 rfl).1
    simp only [SzD, sdP, sdH, sdB, if_true, stP_len, stH_len, stB_len]
    omega

end Go.Proofs.Ytpgmocogffolaaa

namespace Go.Proofs.Ytpgmocogffolaaa
open Go.RowKit
set_option linter.unusedVariables false

theorem own_outJ {w w' : World} {base lo hi n : Nat} {e : TypeId} {v : Value} {xs : List Value} (h : w.ownsRow base e 1 v n xs) (ho : ∀ k, v.ownBlock = some k → k < lo ∨ hi ≤ k) (hc : Chg lo hi w w') : w'.ownsRow base e 1 v n xs := by
  refine ⟨h.1, ?_⟩
  rcases h.2 with hn | ⟨g, cap, cur, rfl, hb', hg, rest⟩
  · exact .inl hn
  · exact .inr ⟨g, cap, cur, rfl, hb', by rw [hc.block g (Array.getElem?_eq_some_iff.1 hg).1 (ho g rfl)]; exact hg, rest⟩
theorem dsk_out {w w' : World} {l u : Nat} {p h b v : Value} {P H : List ByteArray} {B : List Bool} (d : DskV w l u p h b P H B) (ho : ∀ k, v.ownBlock = some k → k < l ∨ u ≤ k) (hg : w.grownBy w' v.ownBlock) : DskV w' l u p h b P H B := by
  cases e : v.ownBlock with
  | none => exact d.chg (Chg.ofGrown (lo := u) (hi := u) hg (fun j hj => by rw [e] at hj; cases hj)) (.inl (Nat.le_refl _))
  | some j =>
    have := ho j e
    exact d.chg (Chg.ofGrown (lo := j) (hi := j + 1) hg (fun i hi => by rw [e] at hi; cases hi; omega)) (by omega)
end Go.Proofs.Ytpgmocogffolaaa

namespace Go.Proofs.Ytpgmocogffolaaa
open Go.RowKit
set_option linter.unusedVariables false

theorem stpInfo : (Try.prog.info? 118).map (·.size) = some 4 := by kernel_rfl
theorem res_stp {fn : Func} {x : Tmp} (hf : fn.results = #[.cell x 118]) (tmps : Array Value) (w : World) (g : Nat) (a b c d : Value) (fr : Nat × Nat) (hp : tmps.getD x undef = .pointer (some ⟨g, 0, none⟩))
    (hg : w.heap[g]? = some (.cells #[a, b, c, d] 118 fr)) : (results fn tmps).run Try.prog w = .ok (.agg #[a, b, c, d]) w :=
  results_cell_row hf tmps w g _ _ fr _ hp hg Try.underlying118 rfl stpInfo

set_option maxRecDepth 100000 in
set_option maxHeartbeats 400000 in
theorem szIntS_any (v : Value) (xs : List Int) (l : Int) (w : World) (h : Rd w v xs) (h0 : 0 ≤ l) (hl : l ≤ 1048576) :
    Calls Try.prog 72 #[v, .int .i64 l] w fun e w' => (∃ r : Int, e = .returned (.int .i64 r) ∧ (r < 0 ∨ (0 ≤ r ∧ r ≤ 1048576 ∧ xs.length ≤ 1048576))) ∧ w = w' := by
  obtain ⟨a, cap, rfl, h1, h2, h3⟩ := h
  have hm : xs.length ≤ maxLen := by omega
  unfold maxLen at hm
  clear h3 h2 h1
  by_cases hc : (xs.length : Int) ≤ l
  · have e : ¬ (l - (xs.length : Int) < 0) := by omega
    go_enter Try.func72, Try.ntmps72
    go_wp2
    go_ret
    exact ⟨⟨_, rfl, .inr ⟨by omega, by omega, by omega⟩⟩, rfl⟩
  · have e : l - (xs.length : Int) < 0 := by omega
    go_enter Try.func72, Try.ntmps72
    go_wp2
    go_ret
    exact ⟨⟨_, rfl, .inl (by decide)⟩, rfl⟩

theorem Hand.store4 {W w : World} {L : List Tg} {g : Nat} {a b c d : Value} {T : TypeId} (A : Hand W w L) (i : Nat) (hi : L[i]? = some (TBox g #[a, b, c, d] T)) (v0 v1 v2 v3 : Value) :
    Hand W ((((w.setCell ⟨g, 0, none⟩ v0).setCell ⟨g, 1, none⟩ v1).setCell ⟨g, 2, none⟩ v2).setCell ⟨g, 3, none⟩ v3) (L.set i (TBox g #[v0, v1, v2, v3] T)) := by
  obtain ⟨lo, hi', ⟨b1, b2, b3⟩, _, _, put⟩ := A.open i hi
  exact put _ (TBox g #[v0, v1, v2, v3] T) (TBox.st _ _ _) ⟨b1, b2, b3.store4 v0 v1 v2 v3⟩ (Chg.store4 w g v0 v1 v2 v3 b1 b2)
theorem Hand.last4 {W w : World} {L : List Tg} {g : Nat} {a b c d : Value} {T : TypeId} (A : Hand W w L) (i : Nat) (hi : L[i]? = some (TBox g #[a, b, c, d] T)) (v : Value) :
    Hand W (w.setCell ⟨g, 3, none⟩ v) (L.set i (TBox g #[a, b, c, v] T)) := by
  obtain ⟨lo, hi', ⟨b1, b2, b3⟩, _, _, put⟩ := A.open i hi
  exact put _ (TBox g #[a, b, c, v] T) (TBox.st _ _ _) ⟨b1, b2, by simpa using b3.set 3 v⟩ (Chg.ofSetCell w g 3 v b1 b2)
theorem Hand.wideI {W w : World} {L : List Tg} {v : Value} {xs : List Int} (A : Hand W w L) (i : Nat) (hi : L[i]? = some (TInts v xs)) : Own w W.heap.size v xs := by
  obtain ⟨lo, hi', d, h1, h2, _⟩ := A.open i hi
  exact ownsRow_mono d.1 h1

end Go.Proofs.Ytpgmocogffolaaa

namespace Go.Proofs.Ytpgmocogffolaaa
open Go.RowKit
set_option linter.unusedVariables false

/-- What the sector a tells of a piece: its Epoch and its body; none where it is lost. -/
def sk (P H : List ByteArray) (B : List Bool) (least : Int) (a : Nat) : Option (Int × ByteArray) :=
  if B.getD a false = true then none
  else if (ckR (rsT P H a) 2 a least).ok = true ∧ (ckR (rsT P H a) 2 a least).B.size = 16 then some ((ckR (rsT P H a) 2 a least).E, (ckR (rsT P H a) 2 a least).B) else none
def epo (x : Option (Int × ByteArray)) : Int := match x with | none => -1 | some y => y.1
def bdo (x : Option (Int × ByteArray)) : List Nat := match x with | none => List.replicate 16 0 | some y => bs y.2
/-- A piece that was found: its Epoch may stand in a frame, its body is 16 bytes. -/
def okP (x : Option (Int × ByteArray)) : Prop := ∀ y, x = some y → (0 ≤ y.1 ∧ y.1 ≤ 60000) ∧ y.2.size = 16
theorem rd_good {s : ByteArray} (h : (rdR s).ok = true) : goodF (rdR s).K (rdR s).A (rdR s).E (rdR s).B.size := by
  unfold rdR at h ⊢
  split at h
  · rename_i h1
    rw [if_pos h1]
    split at h
    · rename_i h2
      rw [if_pos h2]
      split at h
      · rename_i h3
        rw [if_pos h3]
        have hg := h3.2.1
        refine ⟨hg.1, hg.2.1, ?_⟩
        show (ofN (bodyOf (bs s))).size ≤ 16
        rw [ofN_size]
        unfold bodyOf
        rw [List.length_take]
        have := h3.1
        omega
      · simp [frNo] at h
    · simp [frNo] at h
  · simp [frNo] at h
theorem ck_rd {s : ByteArray} {k a l : Int} (h : (ckR s k a l).ok = true) : ckR s k a l = rdR s ∧ (rdR s).ok = true := by
  unfold ckR at h ⊢
  split at h
  · rename_i h0
    rw [if_pos h0]
    split at h
    · rename_i h1
      rw [if_pos h1]
      split at h
      · rename_i h2
        rw [if_pos h2]
        split at h
        · rename_i h3
          rw [if_pos h3]
          exact ⟨rfl, h0⟩
        · simp [frNo] at h
      · simp [frNo] at h
    · simp [frNo] at h
  · simp [frNo] at h
theorem ck_good {s : ByteArray} {k a l : Int} (h : (ckR s k a l).ok = true) : goodF (ckR s k a l).K (ckR s k a l).A (ckR s k a l).E (ckR s k a l).B.size := by
  obtain ⟨e, h2⟩ := ck_rd h
  rw [e]
  exact rd_good h2
theorem ckR_small (s : ByteArray) (k a l : Int) : (ckR s k a l).B.size ≤ 16 := by
  cases h : (ckR s k a l).ok with
  | true => exact (ck_good h).2.2
  | false =>
    have : (ckR s k a l).B = ⟨#[]⟩ := by
      unfold ckR at h ⊢
      split
      · rename_i h0
        split
        · split
          · split
            · rename_i h1 h2 h3
              rw [if_pos h0, if_pos h1, if_pos h2, if_pos h3, h0] at h
              simp at h
            · rfl
          · rfl
        · rfl
      · rfl
    rw [this]
    exact Nat.zero_le _
theorem sk_ok (P H : List ByteArray) (B : List Bool) (least : Int) (a : Nat) : okP (sk P H B least a) := by
  intro y hy
  unfold sk at hy
  split at hy
  · simp at hy
  · split at hy
    · rename_i h
      simp only [Option.some.injEq] at hy
      subst hy
      exact ⟨(ck_good h.1).2.1, h.2⟩
    · simp at hy
theorem epo_ge {x : Option (Int × ByteArray)} (h : okP x) : -1 ≤ epo x ∧ epo x ≤ 60000 := by
  cases x with
  | none => simp [epo]
  | some y => have := (h y rfl).1; simp only [epo]; omega
theorem bdo_length {x : Option (Int × ByteArray)} (h : okP x) : (bdo x).length = 16 := by
  cases x with
  | none => simp [bdo]
  | some y => simp only [bdo, bs_length]; exact (h y rfl).2
theorem bdo_small (x : Option (Int × ByteArray)) : ∀ b ∈ bdo x, b < 256 := by
  cases x with
  | none => intro b hb; simp only [bdo, List.mem_replicate] at hb; omega
  | some y => exact bs_lt y.2
/-- How many of the first k have this Epoch. -/
def cntE (es : List Int) (e : Int) : Nat → Nat
  | 0 => 0
  | k + 1 => cntE es e k + (if es.getD k 0 = e then 1 else 0)
theorem cntE_le (es : List Int) (e : Int) : ∀ k, cntE es e k ≤ k
  | 0 => Nat.le_refl _
  | k + 1 => by
    have := cntE_le es e k
    simp only [cntE]
    split <;> omega
/-- The greatest of the first k Epochs that three have at least, -1 for none. -/
def rtE (es : List Int) : Nat → Int
  | 0 => -1
  | k + 1 => if 3 ≤ cntE es (es.getD k 0) es.length then max (rtE es k) (es.getD k 0) else rtE es k
theorem rtE_ge (es : List Int) : ∀ k, -1 ≤ rtE es k
  | 0 => Int.le_refl _
  | k + 1 => by
    have := rtE_ge es k
    simp only [rtE]
    split <;> omega
theorem rtE_le (es : List Int) (h : ∀ k, es.getD k 0 ≤ 60000) : ∀ k, rtE es k ≤ 60000
  | 0 => by simp [rtE]
  | k + 1 => by
    have := rtE_le es h k
    have := h k
    simp only [rtE]
    split <;> omega
/-- The right Epoch is one that three have. -/
theorem rtE_has (es : List Int) : ∀ k, 0 ≤ rtE es k → 3 ≤ cntE es (rtE es k) es.length
  | 0, h => by simp [rtE] at h
  | k + 1, h => by
    simp only [rtE] at h ⊢
    split
    · rename_i h3
      rw [if_pos h3] at h
      by_cases hm : rtE es k ≤ es.getD k 0
      · rw [Int.max_eq_right hm]
        exact h3
      · rw [Int.max_eq_left (by omega)] at h ⊢
        exact rtE_has es k h
    · rename_i h3
      rw [if_neg h3] at h
      exact rtE_has es k h
/-- The numbers of the first k that a test picks. -/
def pkE (f : Int → Bool) (es : List Int) : Nat → List Int
  | 0 => []
  | k + 1 => if f (es.getD k 0) = true then pkE f es k ++ [(k : Int)] else pkE f es k
theorem pkE_le (f : Int → Bool) (es : List Int) : ∀ k, (pkE f es k).length ≤ k
  | 0 => Nat.le_refl _
  | k + 1 => by
    have := pkE_le f es k
    simp only [pkE]
    split
    · simp; omega
    · omega
theorem pkE_not (f : Int → Bool) (es : List Int) : ∀ k, (pkE f es k).length + (pkE (fun e => !f e) es k).length = k
  | 0 => rfl
  | k + 1 => by
    have := pkE_not f es k
    simp only [pkE]
    by_cases h : f (es.getD k 0) = true
    · rw [if_pos h, if_neg (by rw [h]; decide), List.length_append]
      simp only [List.length_cons, List.length_nil]
      omega
    · have h' : f (es.getD k 0) = false := by
        cases hh : f (es.getD k 0) with
        | true => exact absurd hh h
        | false => rfl
      rw [if_neg h, if_pos (by rw [h']; rfl), List.length_append]
      simp only [List.length_cons, List.length_nil]
      omega
theorem pkE_cnt (es : List Int) (r : Int) (f : Int → Bool) (hf : ∀ e, f e = decide (e = r)) : ∀ k, (pkE f es k).length = cntE es r k
  | 0 => rfl
  | k + 1 => by
    have := pkE_cnt es r f hf k
    simp only [pkE, cntE, hf, decide_eq_true_eq]
    split
    · simp; omega
    · simpa using this
theorem pkE_mem (f : Int → Bool) (es : List Int) : ∀ k x, x ∈ pkE f es k → 0 ≤ x ∧ x < (k : Int)
  | 0, x, h => by simp [pkE] at h
  | k + 1, x, h => by
    simp only [pkE] at h
    split at h
    · rcases List.mem_append.1 h with h | h
      · have := pkE_mem f es k x h
        omega
      · simp at h
        omega
    · have := pkE_mem f es k x h
      omega
/-- A sector is one of the right Epoch's. -/
def isE (r e : Int) : Bool := decide (e = r ∧ 0 ≤ e)
/-- Those others. -/
def othE (es : List Int) (r : Int) (k : Nat) : List Int := pkE (fun e => !isE r e) es k
def losE (es : List Int) (k : Nat) : List Int := pkE (fun e => decide (e < 0)) es k
def staE (es : List Int) (r : Int) (k : Nat) : List Int := pkE (fun e => decide (0 ≤ e ∧ ¬ e = r)) es k
theorem othE_few {es : List Int} (h : 0 ≤ rtE es es.length) : (othE es (rtE es es.length) es.length).length ≤ es.length - 3 := by
  have h1 := rtE_has es es.length h
  have h2 := pkE_not (isE (rtE es es.length)) es es.length
  have h3 := pkE_cnt es (rtE es es.length) (isE (rtE es es.length)) (fun e => by
    unfold isE
    refine decide_eq_decide.2 ⟨fun h => h.1, fun h' => ⟨h', by omega⟩⟩) es.length
  unfold othE
  omega
theorem othE_all {es : List Int} {r : Int} (h : r < 0) : ∀ k, (othE es r k).length = k := by
  intro k
  have h2 := pkE_not (isE r) es k
  have h3 : (pkE (isE r) es k).length = 0 := by
    clear h2
    induction k with
    | zero => rfl
    | succ k ih =>
      have hf : isE r (es.getD k 0) = false := decide_eq_false (fun h' => by omega)
      simp only [pkE, hf]
      simpa using ih
  unfold othE
  omega
end Go.Proofs.Ytpgmocogffolaaa
