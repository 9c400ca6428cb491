/-
  Fields that a step has no use for: the program's test, call by call. The contract says what it asks. A step done on a disk of the call's own: what it leaves, and the program's doStep as a whole. Each contract says what it asks. A step of a disk: the program's StepDisk, call by call. The contract says what it asks. Pieces written: the program's writePieces. The contract says what it asks. A step done on a disk of the call's own, kind by kind: the model's l7Step, call by call. Each contract says what it asks. A step done on a disk of the call's own: the model's l7Step as a whole. The contract says what it asks. WriteStripe: the program's and its model's, at every disk, numbers and text. The program's table of rests must hold its seven numbers where the program's own functions are called. A piece put into its sector by the model: l8Put. The contract says what it asks. WriteStripe of the model, at every disk, numbers and text. No condition but that a number is one of 64 bits.
-/
import Derived.Test.YtdoldboefceliaaGreatDoorMendStripeB36
import Derived.Test.YtdoldboefceliaaGreatDoorMendStripeB19
import Derived.Test.YtdoldboefceliaaGreatDoorMendStripeB11
import Derived.Test.YtdoldboefceliaaGreatDoorMendStripeB34
import Derived.Test.YtdoldboefceliaaGreatDoorMendStripeB12
import Derived.Test.YtdoldboefceliaaGreatDoorMendStripeB10
namespace Go.Proofs.YtdoldboefceliaaGreatDoor
open Go.RowKit
set_option linter.unusedVariables false

/-- A step has a kind, and nothing in the fields that this kind has no use for. -/
def lzOk (K A : Int) (T : ByteArray) (ks : List Int) : Prop :=
  ((K = 1 ∨ K = 4) ∧ ks = []) ∨ (K = 2 ∧ A = 0 ∧ T = ⟨#[]⟩ ∧ ks = []) ∨ (K = 3 ∧ A = 0 ∧ T = ⟨#[]⟩) ∨ ((K = 5 ∨ K = 6) ∧ T = ⟨#[]⟩ ∧ ks = [])
theorem bool_eq {x y : Bool} (h : x = true ↔ y = true) : x = y := by
  cases x <;> cases y <;> simp_all

end Go.Proofs.YtdoldboefceliaaGreatDoor

namespace Go.Proofs.YtdoldboefceliaaGreatDoor
open Go.RowKit
set_option linter.unusedVariables false

/-- A step can be done on a disk of n sectors. -/
def stOk (P H : List ByteArray) (B : List Bool) (n : Nat) (K A : Int) (T : ByteArray) (ks : List Int) : Prop :=
  (K = 1 ∧ ks = [] ∧ (0 ≤ A ∧ A < (n : Int)) ∧ hoOk B A.toNat T) ∨ (K = 2 ∧ A = 0 ∧ T = ⟨#[]⟩ ∧ ks = []) ∨ (K = 3 ∧ A = 0 ∧ T = ⟨#[]⟩ ∧ kpOk H ks) ∨
  (K = 4 ∧ ks = [] ∧ (0 ≤ A ∧ A < (n : Int)) ∧ roOk P H A.toNat T) ∨ (K = 5 ∧ T = ⟨#[]⟩ ∧ ks = [] ∧ (0 ≤ A ∧ A < (n : Int))) ∨ (K = 6 ∧ T = ⟨#[]⟩ ∧ ks = [] ∧ (0 ≤ A ∧ A < (n : Int)) ∧ B.getD A.toNat false = true)
theorem st_bool (P H : List ByteArray) (B : List Bool) (n : Nat) (K A : Int) (T : ByteArray) (ks : List Int) : ∃ g : Bool, g = true ↔ stOk P H B n K A T ks := by
  by_cases hh : stOk P H B n K A T ks
  · exact ⟨true, fun _ => hh, fun _ => rfl⟩
  · exact ⟨false, fun h => by simp at h, fun h => absurd h hh⟩
/-- What a step leaves. -/
def stP (P H : List ByteArray) (n : Nat) (K A : Int) (T : ByteArray) (ks : List Int) : List ByteArray :=
  if K = 2 then crP P H (hpl H n) else if K = 3 then crP P H ks else if K = 4 then P.set A.toNat (rotT (P.getD A.toNat ⟨#[]⟩) T) else if K = 6 then P.set A.toNat ⟨#[]⟩ else P
def stH (H : List ByteArray) (K A : Int) (T : ByteArray) : List ByteArray := if K = 1 then H.set A.toNat T else if K = 2 then crH H else if K = 3 then crH H else if K = 5 then H.set A.toNat ⟨#[]⟩ else H
def stB (B : List Bool) (K A : Int) : List Bool := if K = 5 then B.set A.toNat true else if K = 6 then B.set A.toNat false else B

/-- What both do with a step on a disk of the call's own. -/
def StepPost (lo hi : Nat) (p h b : Value) (P H : List ByteArray) (B : List Bool) (n : Nat) (K A : Int) (T : ByteArray) (ks : List Int) (ok : Bool) (w w' : World) : Prop :=
  (ok = true → DskV w' lo hi p h b (stP P H n K A T ks) (stH H K A T) (stB B K A)) ∧ Chg lo hi w w'

theorem doStep_calls (p h b vk : Value) (P H : List ByteArray) (B : List Bool) (K A : Int) (T : ByteArray) (ks : List Int) (lo hi n : Nat) (ok : Bool) (w : World) (d : DskV w lo hi p h b P H B) (hhi : hi ≤ w.heap.size) (hP : P.length = n) (hH : H.length = n) (hB : B.length = n) (hn : 0 < n ∧ n ≤ 24) (kv : ∀ w', Chg lo hi w w' → Rd w' vk ks)
    (lz : lzOk K A T ks) (hok : ok = true ↔ stOk P H B n K A T ks) (hT : T.size ≤ 1048576) (hkl : ks.length ≤ 1048576) (h28 : ∀ i, i < P.length → (P.getD i ⟨#[]⟩).size ≤ 28) :
    Calls Tryz.prog 78 #[.agg #[p, h, b], .agg #[.int .i64 K, .int .i64 A, .string T, vk]] w fun e w' => e = .returned (.bool ok) ∧ StepPost lo hi p h b P H B n K A T ks ok w w' := by
  have inn : (0 ≤ A ∧ A < (n : Int)) → ∃ k : Nat, A = (k : Int) ∧ k < n := fun h => ⟨A.toNat, by omega, by omega⟩
  rcases lz with ⟨hK, rfl⟩ | ⟨rfl, rfl, rfl, rfl⟩ | ⟨rfl, rfl, rfl⟩ | ⟨hK, rfl, rfl⟩
  · rcases hK with rfl | rfl
    · by_cases hA : 0 ≤ A ∧ A < (n : Int)
      · obtain ⟨k, rfl, hk⟩ := inn hA
        refine doStep_1 p h b vk P H B [] lo hi n k T ok w d hhi hP hH hB hn kv hk hT ?_
        rw [hok]
        unfold stOk
        simp [hk]
      · have e0 : ok = false := by
          cases ok with
          | false => rfl
          | true =>
            have := hok.1 rfl
            unfold stOk at this
            simp at this
            exact absurd this.1 hA
        subst e0
        exact (doStep_out1 p h b vk P H B [] lo hi n A T w d hhi hP hH hB hn kv hA).mono fun e w' ⟨h1, h2, h3⟩ => ⟨h1, fun h => by simp at h, h3⟩
    · by_cases hA : 0 ≤ A ∧ A < (n : Int)
      · obtain ⟨k, rfl, hk⟩ := inn hA
        refine doStep_4 p h b vk P H B [] lo hi n k T ok w d hhi hP hH hB hn kv hk hT (h28 k (by omega)) ?_
        rw [hok]
        unfold stOk
        simp [hk]
      · have e0 : ok = false := by
          cases ok with
          | false => rfl
          | true =>
            have := hok.1 rfl
            unfold stOk at this
            simp at this
            exact absurd this.1 hA
        subst e0
        exact (doStep_out4 p h b vk P H B [] lo hi n A T w d hhi hP hH hB hn kv hA).mono fun e w' ⟨h1, h2, h3⟩ => ⟨h1, fun h => by simp at h, h3⟩
  · have e0 : ok = true := hok.2 (.inr (.inl ⟨rfl, rfl, rfl, rfl⟩))
    subst e0
    exact doStep_sync p h b vk P H B [] lo hi n w d hhi hP hH hB hn kv
  · refine doStep_crash p h b vk P H B ks lo hi n ok w d hhi hP hH hB hn kv ?_ hkl
    rw [hok]
    unfold stOk
    simp
  · rcases hK with rfl | rfl
    · by_cases hA : 0 ≤ A ∧ A < (n : Int)
      · obtain ⟨k, rfl, hk⟩ := inn hA
        have e0 : ok = true := hok.2 (.inr (.inr (.inr (.inr (.inl ⟨rfl, rfl, rfl, hA⟩)))))
        subst e0
        exact doStep_5 p h b vk P H B [] lo hi n k w d hhi hP hH hB hn kv hk
      · have e0 : ok = false := by
          cases ok with
          | false => rfl
          | true =>
            have := hok.1 rfl
            unfold stOk at this
            simp at this
            exact absurd this hA
        subst e0
        exact (doStep_out5 p h b vk P H B [] lo hi n A ⟨#[]⟩ w d hhi hP hH hB hn kv hA).mono fun e w' ⟨h1, h2, h3⟩ => ⟨h1, fun h => by simp at h, h3⟩
    · by_cases hA : 0 ≤ A ∧ A < (n : Int)
      · obtain ⟨k, rfl, hk⟩ := inn hA
        refine doStep_6 p h b vk P H B [] lo hi n k ok w d hhi hP hH hB hn kv hk ?_
        refine bool_eq ?_
        rw [hok]
        unfold stOk
        simp [hk]
      · have e0 : ok = false := by
          cases ok with
          | false => rfl
          | true =>
            have := hok.1 rfl
            unfold stOk at this
            simp at this
            exact absurd this.1 hA
        subst e0
        exact (doStep_out6 p h b vk P H B [] lo hi n A ⟨#[]⟩ w d hhi hP hH hB hn kv hA).mono fun e w' ⟨h1, h2, h3⟩ => ⟨h1, fun h => by simp at h, h3⟩
end Go.Proofs.YtdoldboefceliaaGreatDoor

namespace Go.Proofs.YtdoldboefceliaaGreatDoor
open Go.RowKit
set_option linter.unusedVariables false

theorem Hand.three (w : World) (c1 c2 c3 : Array Value) (T1 T2 T3 : TypeId) : Hand w (((w.alloc (.cells c1 T1)).alloc (.cells c2 T2)).alloc (.cells c3 T3)) [TBox (w.heap.size + 1 + 1) c3 T3, TBox (w.heap.size + 1) c2 T2, TBox w.heap.size c1 T1] := by
  have h := (((Hand.start w).box c1 T1).box c2 T2).box c3 T3
  simpa only [World.size_alloc] using h
end Go.Proofs.YtdoldboefceliaaGreatDoor

namespace Go.Proofs.YtdoldboefceliaaGreatDoor
open Go.RowKit
open Gf (ci nat)
set_option linter.unusedVariables false

/-- A piece's sector. -/
def scT (A : Nat) (E : Int) (row : List Nat) : ByteArray := (frR 2 (A : Int) E (ofN row)).1
/-- What is held behind the first writes. -/
def wrTo (H : List ByteArray) (A : Nat) (E : Int) (m : List (List Nat)) (ks : List Nat) : Nat → List ByteArray
  | 0 => H
  | j + 1 => (wrTo H A E m ks j).set (A + ks.getD j 0) (scT (A + ks.getD j 0) E (m.getD (ks.getD j 0) []))
def wOk (B : List Bool) (A : Nat) (E : Int) (ks : List Nat) (n : Nat) : Prop := ∀ j, j < n → (0 ≤ E ∧ E ≤ 60000) ∧ B.getD (A + ks.getD j 0) false = false
def ifT {α : Type} (ok : Bool) (l : List α) : List α := if ok = true then l else []
theorem wrTo_length (H : List ByteArray) (A : Nat) (E : Int) (m : List (List Nat)) (ks : List Nat) : ∀ j, (wrTo H A E m ks j).length = H.length
  | 0 => rfl
  | j + 1 => by rw [wrTo, List.length_set, wrTo_length H A E m ks j]
theorem sc_good {A : Nat} {E : Int} {row : List Nat} (hA : A ≤ 24) (hE : 0 ≤ E ∧ E ≤ 60000) (hr : row.length = 16) : frR 2 (A : Int) E (ofN row) = (scT A E row, true) ∧ (scT A E row).size = 28 := by
  have hg : goodF 2 (A : Int) E (ofN row).size := ⟨⟨by omega, by omega, by omega⟩, hE, by rw [ofN_size]; omega⟩
  have e : frR 2 (A : Int) E (ofN row) = (ofN (frB (2 : Int).toNat (A : Int).toNat E.toNat (bs (ofN row))), true) := if_pos hg
  have e2 : scT A E row = ofN (frB (2 : Int).toNat (A : Int).toNat E.toNat (bs (ofN row))) := by unfold scT; rw [e]
  rw [e2]
  refine ⟨e, ?_⟩
  rw [ofN_size, frB_length (by rw [bs_length, ofN_size]; omega)]
theorem sc_bad {A : Nat} {E : Int} {row : List Nat} (hE : ¬ (0 ≤ E ∧ E ≤ 60000)) : frR 2 (A : Int) E (ofN row) = (⟨#[]⟩, false) := if_neg (fun h => hE h.2.1)
theorem rd_nil' (w : World) : Rd w (.slice none 0 0) [] := ⟨none, 0, rfl, Nat.le_refl _, ⟨Nat.zero_le _, fun _ => rfl⟩, .inl rfl⟩
/-- A row of numbers, one of them. -/
theorem Rd.nth {w : World} {a : Option Addr} {n cap : Nat} {xs : List Int} (h : Rd w (.slice a n cap) xs) (k : Nat) (hk : k < xs.length) : ∃ b off, a = some ⟨b, off, none⟩ ∧ w.cell? ⟨b, off + k, none⟩ = some (.int .i64 (xs.getD k 0)) := by
  obtain ⟨a', cap', e, h1, h2, h3⟩ := h
  simp only [Value.slice.injEq] at e
  obtain ⟨rfl, _, rfl⟩ := e
  rcases h3 with h3 | ⟨b, off, rfl, hlt, hc⟩
  · subst h3; simp at hk
  · exact ⟨b, off, rfl, hc k hk⟩

set_option maxRecDepth 100000 in
set_option maxHeartbeats 6400000 in
theorem writePieces_calls (p h b : Value) (P H : List ByteArray) (B : List Bool) (A : Nat) (E : Int) (vm : Value) (m : List (List Nat)) (vk : Value) (ks : List Nat) (ok : Bool) (w : World) (gk : gkP P H B) (hA : A + 5 ≤ P.length)
    (hm : RdM w vm (m.map ci)) (ml : m.length = 5) (mr : ∀ i, i < 5 → (m.getD i []).length = 16 ∧ ∀ x ∈ m.getD i [], x < 256) (hk : Rd w vk (ci ks)) (kl : ks.length ≤ 5) (kr : ∀ j, j < ks.length → ks.getD j 0 < 5) (hok : ok = true ↔ wOk B A E ks ks.length)
    (hp : RdT w p P) (hh : RdT w h H) (hb : RdZ w b B) :
    Calls Tryz.prog 60 #[.agg #[p, h, b], .int .i64 (A : Int), .int .i64 E, vm, vk] w fun e w' => ∃ p' h' b', e = .returned (.tuple #[.agg #[p', h', b'], .bool ok]) ∧ DskV w' w.heap.size w'.heap.size p' h' b' (ifT ok P) (ifT ok (wrTo H A E m ks ks.length)) (ifT ok B) ∧ Below w.heap.size w w' := by
  have RP := hide hp
  have RH := hide hh
  have RB := hide hb
  have RM := hide hm
  have RK := hide hk
  have GK := hide gk
  have HOK := hide hok
  have MR := hide mr
  have KR := hide kr
  have ML := hide ml
  have h24 : P.length ≤ 24 := gk.1.2
  have C0 := hide (fun W h1 h2 h3 => copyDisk_calls p h b P H B W h1 h2 h3 ⟨by omega, h24⟩ (by rw [gk.2.1]; omega) (by rw [gk.2.2.1]; omega) gk.2.2.2.1 (by rw [gk.2.1]; exact gk.2.2.2.2.1))
  have S28 := hide gk.2.2.2.1
  have LH := hide gk.2.1
  have LB := hide gk.2.2.1
  have A0 : Hid (Hand w ((w.alloc (.cells #[p, h, b] 30)).alloc (.cells nil3 30)) [TBox (w.heap.size + 1) nil3 30, TBox w.heap.size #[p, h, b] 30]) := by
    show Hand _ _ _
    have := ((Hand.start w).box #[p, h, b] 30).box nil3 30
    simpa using this
  obtain ⟨ak, ck, hvk, _⟩ := hk
  rw [Gf.ci_length] at hvk
  subst hvk
  obtain ⟨am, cm, hvm, _⟩ := hm
  rw [List.length_map] at hvm
  subst hvm
  obtain ⟨mn, hmn⟩ : ∃ mn, mn = m.length := ⟨_, rfl⟩
  rw [← hmn] at RM ⊢
  have MN : Hid (mn = 5) := by show _ = _; rw [hmn, ml]
  clear gk hp hh hb hok mr kr hmn ml
  obtain ⟨c0, c1, c2⟩ := (A0.out.atBox 1 rfl).c3
  go_enter Tryz.func60, Tryz.ntmps60
  go_wp2_with fail
  refine (C0.out _ (RP.out.below A0.out.below) (RH.out.below A0.out.below) (RB.out.below A0.out.below)).mono ?_
  rintro e w1 ⟨p1, h1, b1, rfl, d1, q⟩
  obtain ⟨ap, cp, ah, ch, ab, cb, rfl, rfl, rfl⟩ := d1.sl
  have A1 := hide ((A0.out.add q (TDsk.st _ _ _ _ _ _) d1).box #[.slice ap P.length cp, .slice ah H.length ch, .slice ab B.length cb] 30)
  clear q d1 A0 c0 c1 c2
  obtain ⟨gn, hgn⟩ : ∃ gn, gn = w1.heap.size := ⟨_, rfl⟩
  rw [← hgn] at A1
  have HGN := hide hgn
  clear hgn
  obtain ⟨np, hnp⟩ : ∃ x, x = P.length := ⟨_, rfl⟩
  obtain ⟨nh, hnh⟩ : ∃ x, x = H.length := ⟨_, rfl⟩
  obtain ⟨nb, hnb⟩ : ∃ x, x = B.length := ⟨_, rfl⟩
  have hB5 : A + 5 ≤ np := by rw [hnp]; exact hA
  have hnp24 : np ≤ 24 := by rw [hnp]; exact h24
  rw [← hnp, ← hnh, ← hnb] at A1 ⊢
  have NP := hide hnp
  have NH : Hid (nh = np) := by show _ = _; rw [hnh, hnp]; exact LH.out
  have NB : Hid (nb = np) := by show _ = _; rw [hnb, hnp]; exact LB.out
  clear hnp hnh hnb hA h24
  go_wp2
  rw [← HGN.out]
  go_loopw [14, 15, 16, 21] (fun _ _ _ vi wr => ∃ k : Nat, k ≤ ks.length ∧ vi = .int .i64 k ∧ Hand w wr [TBox gn #[.slice ap np cp, .slice ah nh ch, .slice ab nb cb] 30, TDsk (.slice ap np cp) (.slice ah nh ch) (.slice ab nb cb) P (wrTo H A E m ks k) B, TBox (w.heap.size + 1) nil3 30, TBox w.heap.size #[p, h, b] 30] ∧ wOk B A E ks k) (fun _ _ _ vi _ => ks.length - (intOf vi).toNat)
  case atStart => exact ⟨0, Nat.zero_le _, rfl, A1.out, fun j hj => by omega⟩
  case round =>
    clear A1
    obtain ⟨k, hk, rfl, hH, hw⟩ := hrel
    have AH := hide hH
    have WO := hide hw
    clear hH hw
    by_cases hlt : k < ks.length
    · have hlt' : (k : Int) < (ks.length : Int) := by omega
      obtain ⟨kb, ko, hka, hkc⟩ := (RK.out.below AH.out.below).nth k (by rw [Gf.ci_length]; exact hlt)
      subst hka
      rw [Gf.ci_getD] at hkc
      have hz5 := KR.out k hlt
      have WS : Hid (wrTo H A E m ks (k + 1) = (wrTo H A E m ks k).set (A + ks.getD k 0) (scT (A + ks.getD k 0) E (m.getD (ks.getD k 0) []))) := rfl
      have WK : Hid (∀ hh : (0 ≤ E ∧ E ≤ 60000) ∧ B.getD (A + ks.getD k 0) false = false, wOk B A E ks (k + 1)) := fun hh j hj => by
        by_cases e : j = k
        · subst e; exact hh
        · exact WO.out j (by omega)
      have WN : Hid (ok = true → (0 ≤ E ∧ E ≤ 60000) ∧ B.getD (A + ks.getD k 0) false = false) := fun e => HOK.out.1 e k hlt
      generalize hzz : ks.getD k 0 = z at *
      clear hzz
      have LW := hide (wrTo_length H A E m ks k)
      generalize wrTo H A E m ks k = Hk at *
      have hzi : (z : Int) < (mn : Int) := by rw [MN.out]; omega
      obtain ⟨mb, mo, u, hma, _, hmc, hu⟩ := (RM.out.below AH.out.below).rowAt z (by rw [List.length_map, ML.out]; exact hz5)
      subst hma
      obtain ⟨r1, r2⟩ := MR.out z hz5
      have hmg : (m.map ci).getD z [] = ci (m.getD z []) := by
        simp only [List.getD_eq_getElem?_getD]
        rw [List.getElem?_map, List.getElem?_eq_getElem (by rw [ML.out]; exact hz5)]
        rfl
      rw [hmg] at hu
      have U := hide hu
      obtain ⟨ua, uc, hu2, _⟩ := hu
      rw [Gf.ci_length, r1] at hu2
      subst hu2
      have C1 := hide (fun W v hv => bodyOf_calls v (m.getD z []) W hv r2 (by omega))
      have E5 : Hid ((A : Int) + (z : Int) = ((A + z : Nat) : Int)) := by show _ = _; omega
      have C2 := hide (fun W => frameBytes_calls 2 ((A + z : Nat) : Int) E (ofN (m.getD z [])) W (by rw [ofN_size, r1]; unfold maxLen; omega))
      have R1 := hide r1
      clear hmg r1 r2
      by_cases hE : 0 ≤ E ∧ E ≤ 60000
      · obtain ⟨g1, g2⟩ := sc_good (A := A + z) (by omega) hE R1.out
        rw [g1] at C2
        generalize scT (A + z) E (m.getD z []) = T at *
        generalize ofN (m.getD z []) = bo at *
        go_wp2_with fail
        refine (C1.out _ _ U.out).mono ?_
        rintro e w2 ⟨rfl, q⟩
        have A2 := hide (AH.out.step q)
        clear q AH hkc hmc
        go_wp2_with fail
        rw [E5.out]
        refine (C2.out _).mono ?_
        rintro e w3 ⟨rfl, q⟩
        have A3 := hide (A2.out.step q)
        clear q A2
        obtain ⟨c0, c1, c2⟩ := (A3.out.atBox 0 rfl).c3
        obtain ⟨lo, hi, d3, lw, hw3, put⟩ := A3.out.open 1 rfl
        have D3 : Hid (DskV w3 lo hi (.slice ap np cp) (.slice ah nh ch) (.slice ab nb cb) P Hk B) := d3
        have PUT := hide put
        clear d3 put
        obtain ⟨y, hy⟩ : ∃ y : Bool, y = true ↔ stOk P Hk B np 1 ((A + z : Nat) : Int) T [] := st_bool _ _ _ _ _ _ _ _
        have YB : Hid (y = true ↔ B.getD (A + z) false = false) := by
          show _ ↔ _
          rw [hy]
          unfold stOk hoOk
          simp only [Int.toNat_natCast]
          constructor
          · rintro (⟨_, _, _, h1, _⟩ | ⟨h0, _⟩ | ⟨h0, _⟩ | ⟨h0, _⟩ | ⟨h0, _⟩ | ⟨h0, _⟩)
            · exact h1
            all_goals (exact absurd h0 (by decide))
          · intro h1
            exact .inl ⟨by trivial, by trivial, ⟨by omega, by omega⟩, h1, by rw [g2]; omega, by rw [g2]; omega⟩
        have C3 := hide (doStep_calls (.slice ap np cp) (.slice ah nh ch) (.slice ab nb cb) (.slice none 0 0) P Hk B 1 ((A + z : Nat) : Int) T [] lo hi np y w3 D3.out hw3 NP.out.symm (by rw [LW.out, LH.out, NP.out]) (by rw [LB.out, NP.out]) ⟨by omega, hnp24⟩ (fun _ _ => rd_nil' _) (.inl ⟨.inl rfl, rfl⟩) hy (by rw [g2]; omega) (by simp) S28.out)
        go_wp2_with fail
        rw [E5.out]
        refine C3.out.mono ?_
        rintro e w4 ⟨rfl, sp1, sp2⟩
        cases y with
        | true =>
          have e1 : stP P Hk np 1 ((A + z : Nat) : Int) T [] = P := by unfold stP; rw [if_neg (by decide), if_neg (by decide), if_neg (by decide), if_neg (by decide)]
          have e2 : stH Hk 1 ((A + z : Nat) : Int) T = Hk.set (A + z) T := by unfold stH; rw [if_pos rfl, Int.toNat_natCast]
          have e3 : stB B 1 ((A + z : Nat) : Int) = B := by unfold stB; rw [if_neg (by decide), if_neg (by decide)]
          have d4 := sp1 rfl
          rw [e1, e2, e3] at d4
          have A4 := hide (PUT.out w4 (TDsk (.slice ap np cp) (.slice ah nh ch) (.slice ab nb cb) P (Hk.set (A + z) T) B) (TDsk.st _ _ _ _ _ _) d4 sp2)
          have WKK := hide (WK.out ⟨hE, YB.out.1 rfl⟩)
          clear sp1 sp2 d4 e1 e2 e3 PUT D3 C3 A3 c0 c1 c2 hw3 lw hy YB WK WN
          go_wp2
          go_roundw
          case rel =>
            refine ⟨k + 1, by omega, by go_num, ?_, WKK.out⟩
            rw [WS.out]
            exact A4.out
          case measure => simp [intOf]; omega
        | false =>
          have okf : ok = false := by
            cases ok with
            | false => rfl
            | true => have := YB.out.2 (WN.out rfl).2; simp at this
          subst okf
          have A4 := hide (PUT.out w4 (fun _ _ _ => True) (fun _ _ _ _ _ _ _ _ _ => trivial) trivial sp2)
          clear sp1 sp2 PUT D3 C3 A3 c0 c1 c2 hw3 lw hy YB WK WN
          obtain ⟨d0, d1, d2⟩ := (A4.out.atBox 2 rfl).c3
          have g0 := (A4.out.atBox 2 rfl).frozen 0
          have g1' := (A4.out.atBox 2 rfl).frozen 1
          have g2' := (A4.out.atBox 2 rfl).frozen 2
          have AZ := hide (A4.out.store3 2 rfl (.slice none 0 0) (.slice none 0 0) (.slice none 0 0))
          go_wp2
          exact bodyPost_ret (res_dsk2 rfl _ _ (w.heap.size + 1) _ _ _ (0, 0) rfl (AZ.out.atBox 2 rfl)) rfl ⟨_, _, _, rfl, DskV.nil _ _ _, AZ.out.below⟩
      · have okf : ok = false := by
          cases ok with
          | false => rfl
          | true => exact absurd (WN.out rfl).1 hE
        subst okf
        rw [sc_bad hE] at C2
        generalize ofN (m.getD z []) = bo at *
        go_wp2_with fail
        refine (C1.out _ _ U.out).mono ?_
        rintro e w2 ⟨rfl, q⟩
        have A2 := hide (AH.out.step q)
        clear q AH hkc hmc
        go_wp2_with fail
        rw [E5.out]
        refine (C2.out _).mono ?_
        rintro e w3 ⟨rfl, q⟩
        have A3 := hide (A2.out.step q)
        clear q A2
        obtain ⟨d0, d1, d2⟩ := (A3.out.atBox 2 rfl).c3
        have g0 := (A3.out.atBox 2 rfl).frozen 0
        have g1' := (A3.out.atBox 2 rfl).frozen 1
        have g2' := (A3.out.atBox 2 rfl).frozen 2
        have AZ := hide (A3.out.store3 2 rfl (.slice none 0 0) (.slice none 0 0) (.slice none 0 0))
        go_wp2
        exact bodyPost_ret (res_dsk2 rfl _ _ (w.heap.size + 1) _ _ _ (0, 0) rfl (AZ.out.atBox 2 rfl)) rfl ⟨_, _, _, rfl, DskV.nil _ _ _, AZ.out.below⟩
    · obtain rfl : k = ks.length := by omega
      have okt : ok = true := HOK.out.2 WO.out
      subst okt
      obtain ⟨c0, c1, c2⟩ := (AH.out.atBox 0 rfl).c3
      obtain ⟨d0, d1, d2⟩ := (AH.out.atBox 2 rfl).c3
      have g0 := (AH.out.atBox 2 rfl).frozen 0
      have g1' := (AH.out.atBox 2 rfl).frozen 1
      have g2' := (AH.out.atBox 2 rfl).frozen 2
      have AZ := hide (AH.out.store3 2 rfl (.slice ap np cp) (.slice ah nh ch) (.slice ab nb cb))
      go_wp2
      obtain ⟨lo, hi, d3, lw, hw3, _⟩ := AZ.out.open 1 rfl
      have D3 : DskV _ lo hi (.slice ap np cp) (.slice ah nh ch) (.slice ab nb cb) P (wrTo H A E m ks ks.length) B := d3
      exact bodyPost_ret (res_dsk2 rfl _ _ (w.heap.size + 1) _ _ _ (0, 0) rfl (AZ.out.atBox 2 rfl)) rfl ⟨_, _, _, rfl, D3.wider lw hw3, AZ.out.below⟩
end Go.Proofs.YtdoldboefceliaaGreatDoor

namespace Go.Proofs.YtdoldboefceliaaGreatDoor
open Go.RowKit
set_option linter.unusedVariables false
set_option linter.unusedSimpArgs false in
set_option maxRecDepth 100000 in
set_option maxHeartbeats 1600000 in
theorem s_1c (p h b vk : Value) (P H : List ByteArray) (B : List Bool) (lo hi n : Nat) (k : Nat) (T : ByteArray) (w : World) (d : DskV w lo hi p h b P H B) (hhi : hi ≤ w.heap.size) (hP : P.length = n) (hH : H.length = n) (hB : B.length = n) (hn : 0 < n ∧ n ≤ 24) (kv : ∀ w', Chg lo hi w w' → Rd w' vk ([] : List Int)) (hk : k < n) (hBk : B.getD k false = false) (h1 : 1 ≤ T.size) (h2 : T.size ≤ 28) :
    Calls Tryz.prog 111 #[.agg #[p, h, b], .agg #[.int .i64 1, .int .i64 (k : Int), .string T, vk]] w fun e w' => e = .returned (.tuple #[.agg #[p, h, b], .bool true]) ∧ (true = true → DskV w' lo hi p h b P (H.set k T) B) ∧ Chg lo hi w w' := by
  obtain ⟨gp, cp, gh, ch, gb, cb, rfl, rfl, rfl, n1, n2, n3, ⟨t1, t2, t3⟩, _⟩ := d.blocks hP hH hB hn.1
  have KV := hide kv
  obtain ⟨av, cv, ev', mv, _⟩ := (kv w (Chg.refl _ _ _)).sl
  have ev : vk = .slice av 0 cv := ev'
  clear ev'
  subst ev
  have A0 := Hand.three w #[.slice (some ⟨gp, 0, none⟩) n cp, .slice (some ⟨gh, 0, none⟩) n ch, .slice (some ⟨gb, 0, none⟩) n cb] #[.int .i64 1, .int .i64 (k : Int), .string T, .slice av 0 cv] nil3 30 51 30
  have F0 : Hid (BoxAt (((w.alloc (.cells #[.slice (some ⟨gp, 0, none⟩) n cp, .slice (some ⟨gh, 0, none⟩) n ch, .slice (some ⟨gb, 0, none⟩) n cb] 30)).alloc (.cells #[.int .i64 1, .int .i64 (k : Int), .string T, .slice av 0 cv] 51)).alloc (.cells #[.slice (some ⟨gp, 0, none⟩) n cp, .slice (some ⟨gh, 0, none⟩) n ch, .slice (some ⟨gb, 0, none⟩) n cb] 30)) (w.heap.size + 1 + 1) #[.slice (some ⟨gp, 0, none⟩) n cp, .slice (some ⟨gh, 0, none⟩) n ch, .slice (some ⟨gb, 0, none⟩) n cb] 30) := (Hand.three w #[.slice (some ⟨gp, 0, none⟩) n cp, .slice (some ⟨gh, 0, none⟩) n ch, .slice (some ⟨gb, 0, none⟩) n cb] #[.int .i64 1, .int .i64 (k : Int), .string T, .slice av 0 cv] #[.slice (some ⟨gp, 0, none⟩) n cp, .slice (some ⟨gh, 0, none⟩) n ch, .slice (some ⟨gb, 0, none⟩) n cb] 30 51 30).atBox 0 rfl
  have CF0 : Hid (Chg lo hi w (((w.alloc (.cells #[.slice (some ⟨gp, 0, none⟩) n cp, .slice (some ⟨gh, 0, none⟩) n ch, .slice (some ⟨gb, 0, none⟩) n cb] 30)).alloc (.cells #[.int .i64 1, .int .i64 (k : Int), .string T, .slice av 0 cv] 51)).alloc (.cells #[.slice (some ⟨gp, 0, none⟩) n cp, .slice (some ⟨gh, 0, none⟩) n ch, .slice (some ⟨gb, 0, none⟩) n cb] 30))) := Chg.ofBelow (Hand.three w #[.slice (some ⟨gp, 0, none⟩) n cp, .slice (some ⟨gh, 0, none⟩) n ch, .slice (some ⟨gb, 0, none⟩) n cb] #[.int .i64 1, .int .i64 (k : Int), .string T, .slice av 0 cv] #[.slice (some ⟨gp, 0, none⟩) n cp, .slice (some ⟨gh, 0, none⟩) n ch, .slice (some ⟨gb, 0, none⟩) n cb] 30 51 30).below
  obtain ⟨W0, e0⟩ : ∃ W0, W0 = ((w.alloc (.cells #[.slice (some ⟨gp, 0, none⟩) n cp, .slice (some ⟨gh, 0, none⟩) n ch, .slice (some ⟨gb, 0, none⟩) n cb] 30)).alloc (.cells #[.int .i64 1, .int .i64 (k : Int), .string T, .slice av 0 cv] 51)).alloc (.cells nil3 30) := ⟨_, rfl⟩
  rw [← e0] at A0
  have z0 := A0.atBox 0 rfl
  have s0 : w.heap.size + 1 + 1 < W0.heap.size := z0.lt
  have E0 := hide e0.symm
  have C0 := hide (Chg.ofBelow (lo := lo) (hi := hi) A0.below)
  have X0 := hide (A0.atBox 2 rfl)
  have Y0 := hide (A0.atBox 1 rfl)
  have Z0 := hide z0
  have D0 := hide (d.below A0.below)
  have LP := hide hP
  have LH := hide hH
  have LB := hide hB
  have KV0 : Hid (∀ w', Chg lo hi W0 w' → Rd w' (.slice av 0 cv) ([] : List Int)) := fun w' hc => KV.out _ (C0.out.trans hc)
  clear kv d A0 z0 e0 hP hH hB
  have hk0 : (0 : Int) ≤ (k : Int) := by omega
  have hk' : (k : Int) < (n : Int) := by omega
  go_enter Tryz.func111, Tryz.ntmps111
  go_wp2_with fail
  rw [E0.out]
  refine (l7There_yes _ _ _ _ _ _ _ hk0 hk' (by omega)).mono ?_
  rintro e u1 ⟨rfl, q⟩
  have X1 := hide (X0.out.below q)
  have Y1 := hide (Y0.out.below q)
  have Z1 := hide (Z0.out.below q)
  have D1 := hide (D0.out.below q)
  have C1 := hide (C0.out.trans (Chg.ofBelow q))
  have s1 := q.size
  clear q X0 Y0 Z0 D0 C0 KV0 E0
  obtain ⟨hb1, hb2⟩ := D1.out.cellB LB.out k hk
  rw [hBk] at hb1
  obtain ⟨y0, y1, y2, y3⟩ := Y1.out.c4
  obtain ⟨c0, c1, c2⟩ := X1.out.c3
  go_wp2_with fail
  refine (l1In_yes _ _ _ _ (by omega) (by omega)).mono ?_
  rintro e u ⟨rfl, rfl⟩
  clear hb1 hb2
  obtain ⟨q1a, q1b⟩ := (D1.out).cellH LH.out k hk
  obtain ⟨dp1, cp1⟩ := (D1.out).putH LH.out k T (by unfold maxLen; omega)
  obtain ⟨x1a, x1b, x1c⟩ := (X1.out.chg (cp1) (.inr hhi)).c3
  obtain ⟨v1a, v1b, v1c, v1d⟩ := (Y1.out.chg (cp1) (.inr (by omega))).c4
  have X9 := hide (X1.out.chg (cp1) (.inr hhi))
  have Y9 := hide (Y1.out.chg (cp1) (.inr (by omega)))
  have Z9 := hide (Z1.out.chg (cp1) (.inr (by omega)))
  have D9 := hide dp1
  have C9 := hide (C1.out.trans (cp1))
  have s9 := (cp1).size
  clear dp1 cp1
  clear c0 c1 c2
  obtain ⟨c0, c1, c2⟩ := X9.out.c3
  obtain ⟨r0, r1, r2⟩ := Z9.out.c3
  have f0 := Z9.out.frozen 0
  have f1 := Z9.out.frozen 1
  have f2 := Z9.out.frozen 2
  have XF := hide (Z9.out.store3 (.slice (some ⟨gp, 0, none⟩) n cp) (.slice (some ⟨gh, 0, none⟩) n ch) (.slice (some ⟨gb, 0, none⟩) n cb))
  have c6 := Chg.store3 (lo := w.heap.size + 1 + 1) (hi := w.heap.size + 1 + 1 + 1) (u1.setCell ⟨gh, k, none⟩ (.string T)) (w.heap.size + 1 + 1) (.slice (some ⟨gp, 0, none⟩) n cp) (.slice (some ⟨gh, 0, none⟩) n ch) (.slice (some ⟨gb, 0, none⟩) n cb) (Nat.le_refl _) (by omega)
  have CC := hide (chg_new C9.out c6 (by omega))
  have DD := hide (D9.out.chg c6 (.inl (by omega)))
  clear c6
  obtain ⟨c0, c1, c2⟩ := X1.out.c3
  have m1 : gb ≠ w.heap.size := by omega
  have m2 : gh ≠ w.heap.size := by omega
  have m3 : gp ≠ w.heap.size := by omega
  have m4 : gb ≠ w.heap.size + 1 := by omega
  have m5 : gh ≠ w.heap.size + 1 := by omega
  have m6 : gp ≠ w.heap.size + 1 := by omega
  have m7 : gb ≠ w.heap.size + 1 + 1 := by omega
  have m8 : gh ≠ w.heap.size + 1 + 1 := by omega
  have m9 : gp ≠ w.heap.size + 1 + 1 := by omega
  go_wp2
  exact bodyPost_ret (res_dsk2 rfl _ _ (w.heap.size + 1 + 1) _ _ _ (0, 0) rfl XF.out) rfl ⟨rfl, by first | exact fun _ => DD.out | exact DD.out, CC.out⟩

end Go.Proofs.YtdoldboefceliaaGreatDoor

namespace Go.Proofs.YtdoldboefceliaaGreatDoor
open Go.RowKit
set_option linter.unusedVariables false

end Go.Proofs.YtdoldboefceliaaGreatDoor

namespace Go.Proofs.YtdoldboefceliaaGreatDoor
open Go.RowKit
open Gf (ci nat)
set_option linter.unusedVariables false

end Go.Proofs.YtdoldboefceliaaGreatDoor

namespace Go.Proofs.YtdoldboefceliaaGreatDoor
open Go.RowKit
open Gf (ci nat)
set_option linter.unusedVariables false

theorem sc_frB {A : Nat} {E : Int} {row : List Nat} (hA : A ≤ 24) (hE : 0 ≤ E ∧ E ≤ 60000) (hr : row.length = 16) : ofN (frB 2 A E.toNat (bs (ofN row))) = scT A E row := by
  have hg : goodF 2 (A : Int) E (ofN row).size := ⟨⟨by omega, by omega, by omega⟩, hE, by rw [ofN_size]; omega⟩
  have e : frR 2 (A : Int) E (ofN row) = (ofN (frB (2 : Int).toNat (A : Int).toNat E.toNat (bs (ofN row))), true) := if_pos hg
  unfold scT
  rw [e]
  rfl
end Go.Proofs.YtdoldboefceliaaGreatDoor

namespace Go.Proofs.YtdoldboefceliaaGreatDoor
open Go.RowKit
open Gf (ci nat)
set_option linter.unusedVariables false

/-- Rows of the call's own, held. -/
def TMat (v : Value) (m : List (List Int)) : Tg := fun lo hi w => Mat w lo hi v m
theorem TMat.st (v : Value) (m : List (List Int)) : (TMat v m).st := fun lo hi a b w w' h hc hd => by
  obtain ⟨vs, hv⟩ := h
  exact ⟨vs, hv.chg hc hd⟩

end Go.Proofs.YtdoldboefceliaaGreatDoor
