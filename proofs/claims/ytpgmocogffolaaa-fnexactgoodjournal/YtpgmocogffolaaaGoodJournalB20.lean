/-
  Fields that a step has no use for: the program's test, call by call. The contract says what it asks. A step done on a disk of the call's own: what it leaves, and the program's doStep as a whole. Each contract says what it asks. A frame is written to its sector, and a disk synced, in the disk's own lists: the program's holdFrame, syncDisk. Each contract says what it asks. A journal's writes on a disk of the call's own: the program's holdFrame, holdHalf, holdRoot, syncDisk, call by call. Each contract says what it asks. A new disk: the program's NewDisk and its model's, call by call. Each contract says what it asks.
-/
import Derived.Test.YtpgmocogffolaaaGoodJournalB19
import Derived.Test.YtpgmocogffolaaaGoodJournalB3
import Derived.Test.YtpgmocogffolaaaGoodJournalB10
import Derived.Test.YtpgmocogffolaaaGoodJournalB16
import Derived.Test.YtpgmocogffolaaaGoodJournalB7
namespace Go.Proofs.Ytpgmocogffolaaa
open Go.RowKit
set_option linter.unusedVariables false

/-- A step has a kind, and nothing in the fields that this kind has no use for. -/
def lzOk (K A : Int) (T : ByteArray) (ks : List Int) : Prop :=
  ((K = 1 ∨ K = 4) ∧ ks = []) ∨ (K = 2 ∧ A = 0 ∧ T = ⟨#[]⟩ ∧ ks = []) ∨ (K = 3 ∧ A = 0 ∧ T = ⟨#[]⟩) ∨ ((K = 5 ∨ K = 6) ∧ T = ⟨#[]⟩ ∧ ks = [])
theorem lz_bool (K A : Int) (T : ByteArray) (ks : List Int) : ∃ g : Bool, g = true ↔ lzOk K A T ks := by
  by_cases hh : lzOk K A T ks
  · exact ⟨true, fun _ => hh, fun _ => rfl⟩
  · exact ⟨false, fun h => by simp at h, fun h => absurd h hh⟩
theorem bool_eq {x y : Bool} (h : x = true ↔ y = true) : x = y := by
  cases x <;> cases y <;> simp_all

end Go.Proofs.Ytpgmocogffolaaa

namespace Go.Proofs.Ytpgmocogffolaaa
open Go.RowKit
set_option linter.unusedVariables false

/-- A step can be done on a disk of n sectors. -/
def stOk (P H : List ByteArray) (B : List Bool) (n : Nat) (K A : Int) (T : ByteArray) (ks : List Int) : Prop :=
  (K = 1 ∧ ks = [] ∧ (0 ≤ A ∧ A < (n : Int)) ∧ hoOk B A.toNat T) ∨ (K = 2 ∧ A = 0 ∧ T = ⟨#[]⟩ ∧ ks = []) ∨ (K = 3 ∧ A = 0 ∧ T = ⟨#[]⟩ ∧ kpOk H ks) ∨
  (K = 4 ∧ ks = [] ∧ (0 ≤ A ∧ A < (n : Int)) ∧ roOk P H A.toNat T) ∨ (K = 5 ∧ T = ⟨#[]⟩ ∧ ks = [] ∧ (0 ≤ A ∧ A < (n : Int))) ∨ (K = 6 ∧ T = ⟨#[]⟩ ∧ ks = [] ∧ (0 ≤ A ∧ A < (n : Int)) ∧ B.getD A.toNat false = true)
theorem st_bool (P H : List ByteArray) (B : List Bool) (n : Nat) (K A : Int) (T : ByteArray) (ks : List Int) : ∃ g : Bool, g = true ↔ stOk P H B n K A T ks := by
  by_cases hh : stOk P H B n K A T ks
  · exact ⟨true, fun _ => hh, fun _ => rfl⟩
  · exact ⟨false, fun h => by simp at h, fun h => absurd h hh⟩
theorem stOk_lz {P H : List ByteArray} {B : List Bool} {n : Nat} {K A : Int} {T : ByteArray} {ks : List Int} (h : stOk P H B n K A T ks) : lzOk K A T ks := by
  rcases h with ⟨h1, h2, _⟩ | ⟨h1, h2, h3, h4⟩ | ⟨h1, h2, h3, _⟩ | ⟨h1, h2, _⟩ | ⟨h1, h2, h3, _⟩ | ⟨h1, h2, h3, _⟩
  · exact .inl ⟨.inl h1, h2⟩
  · exact .inr (.inl ⟨h1, h2, h3, h4⟩)
  · exact .inr (.inr (.inl ⟨h1, h2, h3⟩))
  · exact .inl ⟨.inr h1, h2⟩
  · exact .inr (.inr (.inr ⟨.inl h1, h2, h3⟩))
  · exact .inr (.inr (.inr ⟨.inr h1, h2, h3⟩))
/-- What a step leaves. -/
def stP (P H : List ByteArray) (n : Nat) (K A : Int) (T : ByteArray) (ks : List Int) : List ByteArray :=
  if K = 2 then crP P H (hpl H n) else if K = 3 then crP P H ks else if K = 4 then P.set A.toNat (rotT (P.getD A.toNat ⟨#[]⟩) T) else if K = 6 then P.set A.toNat ⟨#[]⟩ else P
def stH (H : List ByteArray) (K A : Int) (T : ByteArray) : List ByteArray := if K = 1 then H.set A.toNat T else if K = 2 then crH H else if K = 3 then crH H else if K = 5 then H.set A.toNat ⟨#[]⟩ else H
def stB (B : List Bool) (K A : Int) : List Bool := if K = 5 then B.set A.toNat true else if K = 6 then B.set A.toNat false else B

/-- What both do with a step on a disk of the call's own. -/
def StepPost (lo hi : Nat) (p h b : Value) (P H : List ByteArray) (B : List Bool) (n : Nat) (K A : Int) (T : ByteArray) (ks : List Int) (ok : Bool) (w w' : World) : Prop :=
  (ok = true → DskV w' lo hi p h b (stP P H n K A T ks) (stH H K A T) (stB B K A)) ∧ Chg lo hi w w'

theorem doStep_calls (p h b vk : Value) (P H : List ByteArray) (B : List Bool) (K A : Int) (T : ByteArray) (ks : List Int) (lo hi n : Nat) (ok : Bool) (w : World) (d : DskV w lo hi p h b P H B) (hhi : hi ≤ w.heap.size) (hP : P.length = n) (hH : H.length = n) (hB : B.length = n) (hn : 0 < n ∧ n ≤ 24) (kv : ∀ w', Chg lo hi w w' → Rd w' vk ks)
    (lz : lzOk K A T ks) (hok : ok = true ↔ stOk P H B n K A T ks) (hT : T.size ≤ 1048576) (hkl : ks.length ≤ 1048576) (h28 : ∀ i, i < P.length → (P.getD i ⟨#[]⟩).size ≤ 28) :
    Calls Try.prog 100 #[.agg #[p, h, b], .agg #[.int .i64 K, .int .i64 A, .string T, vk]] w fun e w' => e = .returned (.bool ok) ∧ StepPost lo hi p h b P H B n K A T ks ok w w' := by
  have inn : (0 ≤ A ∧ A < (n : Int)) → ∃ k : Nat, A = (k : Int) ∧ k < n := fun h => ⟨A.toNat, by omega, by omega⟩
  rcases lz with ⟨hK, rfl⟩ | ⟨rfl, rfl, rfl, rfl⟩ | ⟨rfl, rfl, rfl⟩ | ⟨hK, rfl, rfl⟩
  · rcases hK with rfl | rfl
    · by_cases hA : 0 ≤ A ∧ A < (n : Int)
      · obtain ⟨k, rfl, hk⟩ := inn hA
        refine doStep_1 p h b vk P H B [] lo hi n k T ok w d hhi hP hH hB hn kv hk hT ?_
        rw [hok]
        unfold stOk
        simp [hk]
      · have e0 : ok = false := by
          cases ok with
          | false => rfl
          | true =>
            have := hok.1 rfl
            unfold stOk at this
            simp at this
            exact absurd this.1 hA
        subst e0
        exact (doStep_out1 p h b vk P H B [] lo hi n A T w d hhi hP hH hB hn kv hA).mono fun e w' ⟨h1, h2, h3⟩ => ⟨h1, fun h => by simp at h, h3⟩
    · by_cases hA : 0 ≤ A ∧ A < (n : Int)
      · obtain ⟨k, rfl, hk⟩ := inn hA
        refine doStep_4 p h b vk P H B [] lo hi n k T ok w d hhi hP hH hB hn kv hk hT (h28 k (by omega)) ?_
        rw [hok]
        unfold stOk
        simp [hk]
      · have e0 : ok = false := by
          cases ok with
          | false => rfl
          | true =>
            have := hok.1 rfl
            unfold stOk at this
            simp at this
            exact absurd this.1 hA
        subst e0
        exact (doStep_out4 p h b vk P H B [] lo hi n A T w d hhi hP hH hB hn kv hA).mono fun e w' ⟨h1, h2, h3⟩ => ⟨h1, fun h => by simp at h, h3⟩
  · have e0 : ok = true := hok.2 (.inr (.inl ⟨rfl, rfl, rfl, rfl⟩))
    subst e0
    exact doStep_sync p h b vk P H B [] lo hi n w d hhi hP hH hB hn kv
  · refine doStep_crash p h b vk P H B ks lo hi n ok w d hhi hP hH hB hn kv ?_ hkl
    rw [hok]
    unfold stOk
    simp
  · rcases hK with rfl | rfl
    · by_cases hA : 0 ≤ A ∧ A < (n : Int)
      · obtain ⟨k, rfl, hk⟩ := inn hA
        have e0 : ok = true := hok.2 (.inr (.inr (.inr (.inr (.inl ⟨rfl, rfl, rfl, hA⟩)))))
        subst e0
        exact doStep_5 p h b vk P H B [] lo hi n k w d hhi hP hH hB hn kv hk
      · have e0 : ok = false := by
          cases ok with
          | false => rfl
          | true =>
            have := hok.1 rfl
            unfold stOk at this
            simp at this
            exact absurd this hA
        subst e0
        exact (doStep_out5 p h b vk P H B [] lo hi n A ⟨#[]⟩ w d hhi hP hH hB hn kv hA).mono fun e w' ⟨h1, h2, h3⟩ => ⟨h1, fun h => by simp at h, h3⟩
    · by_cases hA : 0 ≤ A ∧ A < (n : Int)
      · obtain ⟨k, rfl, hk⟩ := inn hA
        refine doStep_6 p h b vk P H B [] lo hi n k ok w d hhi hP hH hB hn kv hk ?_
        refine bool_eq ?_
        rw [hok]
        unfold stOk
        simp [hk]
      · have e0 : ok = false := by
          cases ok with
          | false => rfl
          | true =>
            have := hok.1 rfl
            unfold stOk at this
            simp at this
            exact absurd this.1 hA
        subst e0
        exact (doStep_out6 p h b vk P H B [] lo hi n A ⟨#[]⟩ w d hhi hP hH hB hn kv hA).mono fun e w' ⟨h1, h2, h3⟩ => ⟨h1, fun h => by simp at h, h3⟩
end Go.Proofs.Ytpgmocogffolaaa

namespace Go.Proofs.Ytpgmocogffolaaa
open Go.RowKit
set_option linter.unusedVariables false
set_option linter.unusedSimpArgs false

theorem rd_nilJ (w : World) : Rd w (.slice none 0 0) [] := ⟨none, 0, rfl, Nat.le_refl _, ⟨Nat.zero_le _, fun _ => rfl⟩, .inl rfl⟩
theorem frR_yes {K A E : Int} {b : ByteArray} (h : goodF K A E b.size) : (frR K A E b).2 = true ∧ (frR K A E b).1.size = 28 := by
  have e : frR K A E b = (ofN (frB K.toNat A.toNat E.toNat (bs b)), true) := if_pos h
  rw [e]
  refine ⟨rfl, ?_⟩
  rw [ofN_size, frB_length (by rw [bs_length]; exact h.2.2)]
theorem frR_no {K A E : Int} {b : ByteArray} (h : ¬ goodF K A E b.size) : frR K A E b = (⟨#[]⟩, false) := if_neg h
set_option maxRecDepth 100000 in
set_option maxHeartbeats 1600000 in
theorem holdFrame_calls (p h b : Value) (P H : List ByteArray) (B : List Bool) (K E : Int) (k : Nat) (T : ByteArray) (lo hi n : Nat) (ok : Bool) (w : World) (d : DskV w lo hi p h b P H B) (hhi : hi ≤ w.heap.size) (hP : P.length = n) (hH : H.length = n) (hB : B.length = n) (hn : 0 < n ∧ n ≤ 24) (hk : k < n) (hT : T.size ≤ maxLen)
    (hok : ok = true ↔ (goodF K (k : Int) E T.size ∧ B.getD k false = false)) :
    Calls Try.prog 126 #[.agg #[p, h, b], .agg #[.int .i64 K, .int .i64 (k : Int), .int .i64 E, .string T]] w fun e w' => e = .returned (.bool ok) ∧ (ok = true → DskV w' lo hi p h b P (H.set k (frR K (k : Int) E T).1) B) ∧ Chg lo hi w w' := by
  obtain ⟨ap, cp, ah, ch, ab, cb, rfl, rfl, rfl⟩ := d.sl
  have A0 := hide (Hand.twoR w #[.slice ap P.length cp, .slice ah H.length ch, .slice ab B.length cb] (frC K (k : Int) E T) 30 69)
  have FB := hide (fun W => frameBytes_calls K (k : Int) E T W hT)
  have D := hide d
  have HP := hide hP
  have HH := hide hH
  have HB := hide hB
  by_cases hg : goodF K (k : Int) E T.size
  · obtain ⟨f1, f2⟩ := frR_yes hg
    rw [f1] at FB
    have DS := hide (fun W dd q => doStep_1 (.slice ap P.length cp) (.slice ah H.length ch) (.slice ab B.length cb) (.slice none 0 0) P H B [] lo hi n k (frR K (k : Int) E T).1 ok W dd q HP.out HH.out HB.out hn (fun w' _ => rd_nilJ w') hk (by omega) (hok.trans ⟨fun h => ⟨h.2, by omega, by omega⟩, fun h => ⟨hg, h.1⟩⟩))
    generalize (frR K (k : Int) E T).1 = s at FB DS ⊢
    obtain ⟨x0, x1, x2⟩ := (A0.out.atBox 1 rfl).c3
    obtain ⟨z0, z1, z2, z3⟩ := (A0.out.atBox 0 rfl).c4
    clear d hP hH hB hok hg f1 f2 hT
    go_enter Try.func126, Try.ntmps126
    go_wp2_with fail
    refine (FB.out _).mono ?_
    rintro e w1 ⟨rfl, q⟩
    have A1 := hide (A0.out.step q)
    have BS : hi ≤ w1.heap.size := Nat.le_trans hhi A1.out.below.size
    clear q A0 x0 x1 x2 z0 z1 z2 z3
    obtain ⟨x0, x1, x2⟩ := (A1.out.atBox 1 rfl).c3
    obtain ⟨z0, z1, z2, z3⟩ := (A1.out.atBox 0 rfl).c4
    go_wp2_with (go_at_call 100; refine (DS.out _ (D.out.below A1.out.below) BS).mono ?_; rintro e w2 ⟨rfl, d2, c2⟩)
    go_ret
    exact ⟨by simp, d2, (Chg.ofBelow A1.out.below).trans c2⟩
  · rw [frR_no hg] at FB
    obtain rfl : ok = false := by cases ok with | false => rfl | true => exact absurd (hok.1 rfl).1 hg
    obtain ⟨x0, x1, x2⟩ := (A0.out.atBox 1 rfl).c3
    obtain ⟨z0, z1, z2, z3⟩ := (A0.out.atBox 0 rfl).c4
    clear d hP hH hB hok hg hT
    go_enter Try.func126, Try.ntmps126
    go_wp2_with fail
    refine (FB.out _).mono ?_
    rintro e w1 ⟨rfl, q⟩
    have A1 := hide (A0.out.step q)
    clear q A0 x0 x1 x2 z0 z1 z2 z3
    go_wp2
    go_ret
    exact ⟨rfl, fun h => by simp at h, Chg.ofBelow A1.out.below⟩

set_option maxRecDepth 100000 in
set_option maxHeartbeats 1600000 in
theorem syncDisk_calls (p h b : Value) (P H : List ByteArray) (B : List Bool) (lo hi n : Nat) (w : World) (d : DskV w lo hi p h b P H B) (hhi : hi ≤ w.heap.size) (hP : P.length = n) (hH : H.length = n) (hB : B.length = n) (hn : 0 < n ∧ n ≤ 24) :
    Calls Try.prog 90 #[.agg #[p, h, b]] w fun x w' => x = .returned (.tuple #[]) ∧ DskV w' lo hi p h b (crP P H (hpl H n)) (crH H) B ∧ Chg lo hi w w' := by
  obtain ⟨ap, cp, ah, ch, ab, cb, rfl, rfl, rfl⟩ := d.sl
  have A0 := hide ((Hand.start w).box #[.slice ap P.length cp, .slice ah H.length ch, .slice ab B.length cb] 30)
  have HF := hide (fun W dd q => doStep_sync (.slice ap P.length cp) (.slice ah H.length ch) (.slice ab B.length cb) (.slice none 0 0) P H B [] lo hi n W dd q hP hH hB hn (fun w' _ => rd_nilJ w'))
  have D := hide d
  have BS : hi ≤ (w.alloc (.cells #[.slice ap P.length cp, .slice ah H.length ch, .slice ab B.length cb] 30)).heap.size := Nat.le_trans hhi A0.out.below.size
  obtain ⟨x0, x1, x2⟩ := (A0.out.atBox 0 rfl).c3
  clear d hP hH hB
  go_enter Try.func90, Try.ntmps90
  go_wp2_with fail
  refine (HF.out _ (D.out.below A0.out.below) BS).mono ?_
  rintro x w1 ⟨rfl, d1, c1⟩
  have D1 := hide (d1 trivial)
  clear d1
  go_wp2
  go_end0
  exact ⟨rfl, D1.out, (Chg.ofBelow A0.out.below).trans c1⟩
end Go.Proofs.Ytpgmocogffolaaa

namespace Go.Proofs.Ytpgmocogffolaaa
open Go.RowKit
set_option linter.unusedVariables false
set_option linter.unusedSimpArgs false

/-- A journal's block: its disk's three lists, Epoch, Phase, Acked, Coming. -/
abbrev jrC (p h b : Value) (e ph : Int) (a c : Value) : Array Value := #[p, h, b, .int .i64 e, .int .i64 ph, a, c]
theorem BoxAt.c7 {w : World} {g : Nat} {a b c d e f i : Value} {T : TypeId} (h : BoxAt w g #[a, b, c, d, e, f, i] T) : w.cell? ⟨g, 0, none⟩ = some a ∧ w.cell? ⟨g, 1, none⟩ = some b ∧ w.cell? ⟨g, 2, none⟩ = some c ∧ w.cell? ⟨g, 3, none⟩ = some d ∧ w.cell? ⟨g, 4, none⟩ = some e ∧ w.cell? ⟨g, 5, none⟩ = some f ∧ w.cell? ⟨g, 6, none⟩ = some i :=
  ⟨h.cell 0, h.cell 1, h.cell 2, h.cell 3, h.cell 4, h.cell 5, h.cell 6⟩
/-- What is held behind the root's write, and behind the first k of a half's. -/
def hrt (H : List ByteArray) (e : Int) : List ByteArray := H.set 0 (frR 4 0 e ⟨#[]⟩).1
def hhk (H : List ByteArray) (e : Int) (ts : List ByteArray) : Nat → List ByteArray
  | 0 => H
  | k + 1 => (hhk H e ts k).set ((hlf e).toNat + k) (frR 3 (hlf e + (k : Int)) e (ts.getD k ⟨#[]⟩)).1
def hhv (H : List ByteArray) (e : Int) (vs : List Int) : List ByteArray := hhk H e (jsT vs) 2
theorem hhk_len (H : List ByteArray) (e : Int) (ts : List ByteArray) : ∀ k, (hhk H e ts k).length = H.length
  | 0 => rfl
  | k + 1 => by rw [hhk, List.length_set, hhk_len]

set_option maxRecDepth 100000 in
set_option maxHeartbeats 1600000 in
theorem holdRoot_calls (g : Nat) (p h b a c : Value) (e0 ph e : Int) (P H : List ByteArray) (B : List Bool) (lo hi : Nat) (ok : Bool) (w : World) (X : BoxAt w g (jrC p h b e0 ph a c) 42) (d : DskV w lo hi p h b P H B) (hhi : hi ≤ w.heap.size) (hP : P.length = 5) (hH : H.length = 5) (hB : B.length = 5)
    (nb : ∀ i, B.getD i false = false) (hok : ok = true ↔ (0 ≤ e ∧ e ≤ 60000)) :
    Calls Try.prog 89 #[.pointer (some ⟨g, 0, none⟩), .int .i64 e] w fun x w' => x = .returned (.bool ok) ∧ (ok = true → DskV w' lo hi p h b P (hrt H e) B) ∧ Chg lo hi w w' := by
  obtain ⟨ap, cp, ah, ch, ab, cb, rfl, rfl, rfl⟩ := d.sl
  have HF := hide (fun W dd q => holdFrame_calls (.slice ap P.length cp) (.slice ah H.length ch) (.slice ab B.length cb) P H B 4 e 0 ⟨#[]⟩ lo hi 5 ok W dd q hP hH hB ⟨by omega, by omega⟩ (by omega) (by decide) (hok.trans ⟨fun h => ⟨⟨⟨⟨by omega, by omega⟩, by omega, by omega⟩, h, by decide⟩, nb 0⟩, fun h => h.1.2.1⟩))
  have D := hide d
  have HX := hide X
  obtain ⟨x0, x1, x2, x3, x4, x5, x6⟩ := X.c7
  clear d hP hH hB hok X nb
  go_enter Try.func89, Try.ntmps89
  go_wp2_with fail
  refine (HF.out _ D.out hhi).mono ?_
  rintro x w1 ⟨rfl, d1, c1⟩
  go_wp2
  go_ret
  exact ⟨rfl, d1, c1⟩
theorem getD_lenT {ts : List ByteArray} {n : Nat} (h : ts.length = n) (s : ∀ x ∈ ts, x.size = 6) (k : Nat) (hk : k < n) : (ts.getD k ⟨#[]⟩).size = 6 := by
  rw [List.getD_eq_getElem?_getD, List.getElem?_eq_getElem (by omega), Option.getD_some]
  exact s _ (List.getElem_mem _)
set_option maxRecDepth 100000 in
set_option maxHeartbeats 3200000 in
theorem holdHalf_calls (g : Nat) (p h b a c v : Value) (e0 ph e : Int) (P H : List ByteArray) (B : List Bool) (vs : List Int) (lo hi : Nat) (ok : Bool) (w : World) (X : BoxAt w g (jrC p h b e0 ph a c) 42) (hg : g < lo ∨ hi ≤ g) (d : DskV w lo hi p h b P H B) (hhi : hi ≤ w.heap.size) (hP : P.length = 5) (hH : H.length = 5) (hB : B.length = 5)
    (nb : ∀ i, B.getD i false = false) (hv : Rd w v vs) (hok : ok = true ↔ ((0 ≤ e ∧ e ≤ 60000) ∧ jsP vs)) :
    Calls Try.prog 88 #[.pointer (some ⟨g, 0, none⟩), .int .i64 e, v] w fun x w' => x = .returned (.bool ok) ∧ (ok = true → DskV w' lo hi p h b P (hhv H e vs) B) ∧ Chg lo hi w w' := by
  obtain ⟨ap, cp, ah, ch, ab, cb, rfl, rfl, rfl⟩ := d.sl
  obtain ⟨t, ht⟩ := bol_exJ (0 ≤ e ∧ e ≤ 60000)
  obtain ⟨t2, ht2⟩ := bol_exJ (jsP vs)
  have HO := hide (fun W => halfOf_calls e t W ht)
  have SB := hide (fun W q => stateBytes_calls v vs t2 W q ht2)
  have R := hide hv
  have D := hide d
  have HX := hide X
  obtain ⟨av, cv, ev, _, _⟩ := hv.sl
  subst ev
  clear d X hv
  cases t with
  | false =>
    obtain rfl : ok = false := by cases ok with | false => rfl | true => exact absurd (ht.2 (hok.1 rfl).1) (by simp)
    clear hok ht ht2 nb
    go_enter Try.func88, Try.ntmps88
    go_wp2_with fail
    refine (HO.out _).mono ?_
    rintro x w1 ⟨rfl, rfl⟩
    go_wp2_with fail
    refine (SB.out _ R.out).mono ?_
    rintro x w2 ⟨v2, rfl, o2, b2⟩
    have B2 := hide b2
    clear o2 b2
    go_wp2
    go_ret
    exact ⟨rfl, fun h => by simp at h, Chg.ofBelow B2.out⟩
  | true =>
  cases t2 with
  | false =>
    obtain rfl : ok = false := by cases ok with | false => rfl | true => exact absurd (ht2.2 (hok.1 rfl).2) (by simp)
    clear hok ht ht2 nb
    go_enter Try.func88, Try.ntmps88
    go_wp2_with fail
    refine (HO.out _).mono ?_
    rintro x w1 ⟨rfl, rfl⟩
    go_wp2_with fail
    refine (SB.out _ R.out).mono ?_
    rintro x w2 ⟨v2, rfl, o2, b2⟩
    have B2 := hide b2
    clear o2 b2
    go_wp2
    go_ret
    exact ⟨rfl, fun h => by simp at h, Chg.ofBelow B2.out⟩
  | true =>
    have he := ht.1 rfl
    have hj := ht2.1 rfl
    obtain rfl : ok = true := hok.2 ⟨he, hj⟩
    have TS := hide (jsT_size vs hj.2)
    have hl2 : (jsT vs).length = 2 := rfl
    have HL2 := hide hl2
    unfold hhv
    change Hid (∀ W, Rd W _ vs → Calls _ _ _ _ fun e w' => ∃ v', e = .returned (.tuple #[v', .bool true]) ∧ OwnT w' W.heap.size v' (jsT vs) ∧ _) at SB
    change Hid (∀ W, Calls _ _ _ _ fun x w' => x = .returned (.tuple #[.int .i64 (hlf e), .bool true]) ∧ _) at HO
    generalize jsT vs = ts at TS HL2 SB ⊢
    obtain ⟨hh, ehh, h13⟩ : ∃ hh : Nat, hlf e = (hh : Int) ∧ (hh = 1 ∨ hh = 3) := ⟨(hlf e).toNat, by have := hlf_in (e := e); omega, by have := hlf_in (e := e); omega⟩
    have HF := hide (fun (k : Nat) (hk : k < 2) W dd q => holdFrame_calls (.slice ap P.length cp) (.slice ah H.length ch) (.slice ab B.length cb) P (hhk H e ts k) B 3 e (hh + k) (ts.getD k ⟨#[]⟩) lo hi 5 true W dd q hP (by rw [hhk_len]; exact hH) hB ⟨by omega, by omega⟩ (by omega) (by rw [getD_lenT HL2.out TS.out k hk]; decide)
      ⟨fun _ => ⟨⟨⟨⟨by omega, by omega⟩, by omega, by omega⟩, he, by rw [getD_lenT HL2.out TS.out k hk]; decide⟩, nb _⟩, fun _ => rfl⟩)
    have HK : Hid (∀ k, hhk H e ts (k + 1) = (hhk H e ts k).set (hh + k) (frR 3 ((hh + k : Nat) : Int) e (ts.getD k ⟨#[]⟩)).1) := by
      show ∀ k, _
      intro k
      rw [hhk, ehh]
      simp
    rw [ehh] at HO
    clear hok ht ht2 nb he hj hl2 hP hH hB ehh
    go_enter Try.func88, Try.ntmps88
    go_wp2_with fail
    refine (HO.out _).mono ?_
    rintro x w1 ⟨rfl, rfl⟩
    go_wp2_with fail
    refine (SB.out _ R.out).mono ?_
    rintro x w2 ⟨v2, rfl, o2, b2⟩
    have O2 := hide o2
    have B2 := hide b2
    obtain ⟨a2, c2, rfl⟩ := own_slice o2
    have TT := hide (row_top o2)
    have TL := hide (own_ge o2)
    have SMx : Hid (∀ s ∈ ts, s.size ≤ maxLen) := fun s hs => by rw [TS.out s hs]; decide
    clear o2 b2
    go_wp2
    go_loopw [31] (fun vk wr => ∃ k : Nat, vk = .int .i64 k ∧ k ≤ ts.length ∧ DskV wr lo hi (.slice ap P.length cp) (.slice ah H.length ch) (.slice ab B.length cb) P (hhk H e ts k) B ∧ OwnT wr w.heap.size (.slice a2 ts.length c2) ts ∧ BoxAt wr g (jrC (.slice ap P.length cp) (.slice ah H.length ch) (.slice ab B.length cb) e0 ph a c) 42 ∧ w.heap.size ≤ wr.heap.size ∧ Chg lo hi w wr) (fun vk _ => ts.length - (intOf vk).toNat)
    case atStart => exact ⟨0, rfl, Nat.zero_le _, D.out.below B2.out, O2.out, HX.out.below B2.out, B2.out.size, Chg.ofBelow B2.out⟩
    case round =>
      obtain ⟨k, rfl, hk, hd, ho, hx, hs, hc⟩ := hrel
      have DD := hide hd
      have O := hide ho
      have XX := hide hx
      have CC := hide hc
      clear hd hc O2 B2
      by_cases hlt : k < ts.length
      · have hlt' : (k : Int) < (ts.length : Int) := by omega
        have hk2 : k < 2 := by have := HL2.out; omega
        obtain ⟨ga, oa, ea, q1, _⟩ := (OwnT.rd ho SMx.out).cell k hlt
        subst ea
        obtain ⟨x0, x1, x2, x3, x4, x5, x6⟩ := hx.c7
        have HF2 := hide (HF.out k hk2 wr DD.out (by omega))
        have HKk := hide (HK.out k)
        generalize ts.getD k ⟨#[]⟩ = s at q1 HF2 HKk
        obtain ⟨j, ej⟩ : ∃ j, j = hh + k := ⟨_, rfl⟩
        rw [← ej] at HF2 HKk
        have EJ : Hid ((hh : Int) + (k : Int) = (j : Int)) := by show _ = _; omega
        have jb : hh ≤ 3 := by omega
        clear ho hx ej
        go_wp2_with fail
        rw [EJ.out]
        refine HF2.out.mono ?_
        rintro x w3 ⟨rfl, d3, c3⟩
        have d3' := d3 trivial
        rw [← HKk.out] at d3'
        have D3 := hide d3'
        have O3 := hide (ownsRow_chg O.out TT.out c3 (.inr hhi))
        have X3 := hide (XX.out.chg c3 hg)
        have C3 := hide (CC.out.trans c3)
        have S3 : Hid (w.heap.size ≤ w3.heap.size) := Nat.le_trans hs c3.size
        clear d3 d3' c3 DD O XX CC HF2 HKk q1 x0 x1 x2 x3 x4 x5 x6
        go_wp2
        go_roundw
        case rel => exact ⟨k + 1, by go_num, by omega, D3.out, O3.out, X3.out, S3.out, C3.out⟩
        case measure => simp [intOf]; omega
      · obtain rfl : k = ts.length := by omega
        have e2 := HL2.out
        have dd := DD.out
        rw [e2] at dd
        have D9 := hide dd
        clear dd e2 ho hx
        go_wp2
        go_ret
        exact ⟨rfl, fun _ => D9.out, CC.out⟩
end Go.Proofs.Ytpgmocogffolaaa

namespace Go.Proofs.Ytpgmocogffolaaa
open Go.RowKit
set_option linter.unusedVariables false

/-- n empty texts, and n times false, as cells. -/
def txC (n : Nat) : Array Value := ((List.replicate n (⟨#[]⟩ : ByteArray)).map Value.string).toArray
def boC (n : Nat) : Array Value := ((List.replicate n false).map Value.bool).toArray
theorem mk_txt (n : Nat) (h : n ≤ 1048576) (W : World) : (Instr.makeSlice 22 (.int .i64 (n : Int)) (.int .i64 (n : Int))).run Try.prog W = .ok (.slice (some ⟨W.heap.size, 0, none⟩) n n) (W.alloc (.cells (txC n) 9)) := by
  obtain ⟨i0, hi, hz0, hz1, hz2⟩ := info_parts infoStr
  have h2 := run_make (P := Try.prog) W 22 9 i0 (.string ⟨#[]⟩) Try.underlying22 hi hz0 .i64 .i64 (n : Int) (n : Int) (by omega) (by omega) (by rw [hz2]; omega) (by omega)
  have e : madeCells (Value.string ⟨#[]⟩).cells ((n : Int).toNat * i0.size) = txC n := by
    rw [hz1, Nat.mul_one, Int.toNat_natCast]
    apply Array.ext'
    have := toList_madeCells_one (Value.string ⟨#[]⟩) n
    unfold txC
    rw [List.toList_toArray, List.map_replicate]
    exact this
  rw [e] at h2
  simpa using h2
theorem mk_bol (n : Nat) (h : n ≤ 1048576) (W : World) : (Instr.makeSlice 23 (.int .i64 (n : Int)) (.int .i64 (n : Int))).run Try.prog W = .ok (.slice (some ⟨W.heap.size, 0, none⟩) n n) (W.alloc (.cells (boC n) 4)) := by
  obtain ⟨i0, hi, hz0, hz1, hz2⟩ := info_parts infoBol
  have h2 := run_make (P := Try.prog) W 23 4 i0 (.bool false) Try.underlying23 hi hz0 .i64 .i64 (n : Int) (n : Int) (by omega) (by omega) (by rw [hz2]; omega) (by omega)
  have e : madeCells (Value.bool false).cells ((n : Int).toNat * i0.size) = boC n := by
    rw [hz1, Nat.mul_one, Int.toNat_natCast]
    apply Array.ext'
    have := toList_madeCells_one (Value.bool false) n
    unfold boC
    rw [List.toList_toArray, List.map_replicate]
    exact this
  rw [e] at h2
  simpa using h2
theorem txt_box {w : World} {g n lo : Nat} (h : BoxAt w g (txC n) 9) (hl : lo ≤ g) (hn : n ≤ 1048576) : OwnT w lo (.slice (some ⟨g, 0, none⟩) n n) (List.replicate n ⟨#[]⟩) := by
  refine ⟨by simp, .inr ⟨g, n, _, ?_, hl, h, by simp, by unfold maxLen; omega, by simp [txC], ?_⟩⟩
  · rw [List.length_replicate]
  · rw [List.take_of_length_le (by simp [txC])]
    rfl
theorem bol_box {w : World} {g n lo : Nat} (h : BoxAt w g (boC n) 4) (hl : lo ≤ g) (hn : n ≤ 1048576) : OwnZ w lo (.slice (some ⟨g, 0, none⟩) n n) (List.replicate n false) := by
  refine ⟨by simp, .inr ⟨g, n, _, ?_, hl, h, by simp, by unfold maxLen; omega, by simp [boC], ?_⟩⟩
  · rw [List.length_replicate]
  · rw [List.take_of_length_le (by simp [boC])]
    rfl

section
variable (w : World) (o0 o1 o2 o3 : Obj)
theorem new_size : ((((w.alloc o0).alloc o1).alloc o2).alloc o3).drew.heap.size = w.heap.size + 1 + 1 + 1 + 1 := by
  show ((((w.alloc o0).alloc o1).alloc o2).alloc o3).heap.size = _
  simp
theorem new_f3 : ((((w.alloc o0).alloc o1).alloc o2).alloc o3).drew.heap[w.heap.size + 1 + 1 + 1]? = some o3 := by
  show ((((w.alloc o0).alloc o1).alloc o2).alloc o3).heap[_]? = _
  have := heap_alloc_new (((w.alloc o0).alloc o1).alloc o2) o3
  simpa only [World.size_alloc] using this
theorem new_f2 : ((((w.alloc o0).alloc o1).alloc o2).alloc o3).drew.heap[w.heap.size + 1 + 1]? = some o2 := by
  show ((((w.alloc o0).alloc o1).alloc o2).alloc o3).heap[_]? = _
  rw [Below.heap_alloc _ _ _ (by simp)]
  have := heap_alloc_new ((w.alloc o0).alloc o1) o2
  simpa only [World.size_alloc] using this
theorem new_f1 : ((((w.alloc o0).alloc o1).alloc o2).alloc o3).drew.heap[w.heap.size + 1]? = some o1 := by
  show ((((w.alloc o0).alloc o1).alloc o2).alloc o3).heap[_]? = _
  rw [Below.heap_alloc _ _ _ (by simp <;> omega), Below.heap_alloc _ _ _ (by simp)]
  have := heap_alloc_new (w.alloc o0) o1
  simpa only [World.size_alloc] using this
theorem new_f0 : ((((w.alloc o0).alloc o1).alloc o2).alloc o3).drew.heap[w.heap.size]? = some o0 := by
  show ((((w.alloc o0).alloc o1).alloc o2).alloc o3).heap[_]? = _
  rw [Below.heap_alloc _ _ _ (by simp <;> omega), Below.heap_alloc _ _ _ (by simp <;> omega), Below.heap_alloc _ _ _ (by simp)]
  exact heap_alloc_new w o0
theorem new_below : Below w.heap.size w ((((w.alloc o0).alloc o1).alloc o2).alloc o3).drew :=
  (((((Below.refl _ w).alloc (Nat.le_refl _) o0).alloc (by simp) o1).alloc (by simp <;> omega) o2).alloc (by simp <;> omega) o3).drew
end
theorem new_dsk {W : World} {lo ip ih ib n : Nat} (hp : W.heap[ip]? = some (.cells (txC n) 9 (0, 0))) (hh : W.heap[ih]? = some (.cells (txC n) 9 (0, 0))) (hb : W.heap[ib]? = some (.cells (boC n) 4 (0, 0))) (hne : ip ≠ ih) (l1 : lo ≤ ip) (l2 : lo ≤ ih) (l3 : lo ≤ ib) (hn : n ≤ 24) :
    DskV W lo W.heap.size (.slice (some ⟨ip, 0, none⟩) n n) (.slice (some ⟨ih, 0, none⟩) n n) (.slice (some ⟨ib, 0, none⟩) n n) (List.replicate n ⟨#[]⟩) (List.replicate n ⟨#[]⟩) (List.replicate n false) := by
  have hz : ∀ s ∈ List.replicate n (⟨#[]⟩ : ByteArray), s.size ≤ maxLen := by
    intro s hs
    rw [List.eq_of_mem_replicate hs]
    exact Nat.zero_le _
  have op := txt_box (lo := lo) hp l1 (by omega)
  have oh := txt_box (lo := lo) hh l2 (by omega)
  have ob := bol_box (lo := lo) hb l3 (by omega)
  exact ⟨op, oh, ob, row_top op, row_top oh, row_top ob, .inr (by simpa [Value.ownBlock] using hne), hz, hz⟩

set_option maxRecDepth 100000 in
set_option maxHeartbeats 800000 in
theorem newDisk_yes (n : Nat) (w : World) (h1 : 1 ≤ n) (h2 : n ≤ 24) :
    Calls Try.prog 87 #[.int .i64 n] w fun e w' => ∃ p h b, e = .returned (.tuple #[.agg #[p, h, b], .bool true]) ∧ DskV w' w.heap.size w'.heap.size p h b (List.replicate n ⟨#[]⟩) (List.replicate n ⟨#[]⟩) (List.replicate n false) ∧ Below w.heap.size w w' := by
  have hm1 := mk_txt n (by omega)
  have hm2 := mk_bol n (by omega)
  go_enter Try.func87, Try.ntmps87
  go_wp2_with fail
  refine (isSectorCount_yes _ _ (by omega)).mono ?_
  rintro e w1 ⟨rfl, rfl⟩
  go_wp2
  go_region
  all_goals
    go_wp2
    (try simp only [Exit.inBlock, Exit.then])
    refine bodyPost_ret (res_dsk2 rfl _ _ w.heap.size _ _ _ (0, 0) rfl (new_f0 w _ _ _ _)) rfl ⟨_, _, _, rfl, new_dsk (by first | exact new_f1 w _ _ _ _ | exact new_f2 w _ _ _ _ | exact new_f3 w _ _ _ _) (by first | exact new_f1 w _ _ _ _ | exact new_f2 w _ _ _ _ | exact new_f3 w _ _ _ _) (by first | exact new_f1 w _ _ _ _ | exact new_f2 w _ _ _ _ | exact new_f3 w _ _ _ _) (by omega) (by omega) (by omega) (by omega) h2, new_below w _ _ _ _⟩
set_option maxRecDepth 100000 in
set_option maxHeartbeats 800000 in
theorem sNewDisk_yes (n : Nat) (w : World) (h1 : 1 ≤ n) (h2 : n ≤ 24) :
    Calls Try.prog 83 #[.int .i64 n] w fun e w' => ∃ p h b, e = .returned (.tuple #[.agg #[p, h, b], .bool true]) ∧ DskV w' w.heap.size w'.heap.size p h b (List.replicate n ⟨#[]⟩) (List.replicate n ⟨#[]⟩) (List.replicate n false) ∧ Below w.heap.size w w' := by
  have hm1 := mk_txt n (by omega)
  have hm2 := mk_bol n (by omega)
  go_enter Try.func83, Try.ntmps83
  go_wp2_with fail
  refine (l1In_yes _ _ _ _ (by omega) (by omega)).mono ?_
  rintro e w1 ⟨rfl, rfl⟩
  go_wp2
  go_region
  all_goals
    go_wp2
    (try simp only [Exit.inBlock, Exit.then])
    refine bodyPost_ret (res_dsk2 rfl _ _ w.heap.size _ _ _ (0, 0) rfl (new_f0 w _ _ _ _)) rfl ⟨_, _, _, rfl, new_dsk (by first | exact new_f1 w _ _ _ _ | exact new_f2 w _ _ _ _ | exact new_f3 w _ _ _ _) (by first | exact new_f1 w _ _ _ _ | exact new_f2 w _ _ _ _ | exact new_f3 w _ _ _ _) (by first | exact new_f1 w _ _ _ _ | exact new_f2 w _ _ _ _ | exact new_f3 w _ _ _ _) (by omega) (by omega) (by omega) (by omega) h2, new_below w _ _ _ _⟩
set_option maxRecDepth 100000 in
theorem newDisk_no (n : Int) (w : World) (h : ¬ (1 ≤ n ∧ n ≤ 24)) :
    Calls Try.prog 87 #[.int .i64 n] w fun e w' => e = .returned (.tuple #[.agg nil3, .bool false]) ∧ Below w.heap.size w w' := by
  go_enter Try.func87, Try.ntmps87
  go_wp2_with fail
  refine (isSectorCount_no _ _ h).mono ?_
  rintro e w1 ⟨rfl, rfl⟩
  go_wp2
  (try simp only [Exit.inBlock, Exit.then])
  exact bodyPost_ret (res_dsk2 rfl _ _ w.heap.size _ _ _ (0, 0) rfl (heap_alloc_new w _)) rfl ⟨rfl, below_box w _⟩
set_option maxRecDepth 100000 in
theorem sNewDisk_no (n : Int) (w : World) (h : ¬ (1 ≤ n ∧ n ≤ 24)) :
    Calls Try.prog 83 #[.int .i64 n] w fun e w' => e = .returned (.tuple #[.agg nil3, .bool false]) ∧ Below w.heap.size w w' := by
  go_enter Try.func83, Try.ntmps83
  go_wp2_with fail
  refine (l1In_no _ _ _ _ (by omega)).mono ?_
  rintro e w1 ⟨rfl, rfl⟩
  go_wp2
  (try simp only [Exit.inBlock, Exit.then])
  exact bodyPost_ret (res_dsk2 rfl _ _ w.heap.size _ _ _ (0, 0) rfl (heap_alloc_new w _)) rfl ⟨rfl, below_box w _⟩
/-- What NewDisk answers. -/
def ndT (n : Int) : List ByteArray := if 1 ≤ n ∧ n ≤ 24 then List.replicate n.toNat ⟨#[]⟩ else []
def ndZ (n : Int) : List Bool := if 1 ≤ n ∧ n ≤ 24 then List.replicate n.toNat false else []
def ndK (n : Int) : Bool := decide (1 ≤ n ∧ n ≤ 24)
theorem nd_len (n : Int) : SzD (ndT n) (ndT n) (ndZ n) := by
  unfold SzD ndT ndZ
  split <;> simp <;> omega
theorem newDisk_calls (n : Int) (w : World) :
    Calls Try.prog 87 #[.int .i64 n] w fun e w' => ∃ p h b, e = .returned (.tuple #[.agg #[p, h, b], .bool (ndK n)]) ∧ DskV w' w.heap.size w'.heap.size p h b (ndT n) (ndT n) (ndZ n) ∧ Below w.heap.size w w' := by
  by_cases h : 1 ≤ n ∧ n ≤ 24
  · obtain ⟨m, rfl⟩ : ∃ m : Nat, n = (m : Int) := ⟨n.toNat, by omega⟩
    have e1 : ndT (m : Int) = List.replicate m ⟨#[]⟩ := by unfold ndT; rw [if_pos h, Int.toNat_natCast]
    have e2 : ndZ (m : Int) = List.replicate m false := by unfold ndZ; rw [if_pos h, Int.toNat_natCast]
    have e3 : ndK (m : Int) = true := decide_eq_true h
    rw [e1, e2, e3]
    exact newDisk_yes m w (by omega) (by omega)
  · have e1 : ndT n = [] := if_neg h
    have e2 : ndZ n = [] := if_neg h
    have e3 : ndK n = false := decide_eq_false h
    rw [e1, e2, e3]
    exact (newDisk_no n w h).mono fun e w' ⟨he, hb⟩ => ⟨_, _, _, he, DskV.nil _ _ _, hb⟩
theorem sNewDisk_calls (n : Int) (w : World) :
    Calls Try.prog 83 #[.int .i64 n] w fun e w' => ∃ p h b, e = .returned (.tuple #[.agg #[p, h, b], .bool (ndK n)]) ∧ DskV w' w.heap.size w'.heap.size p h b (ndT n) (ndT n) (ndZ n) ∧ Below w.heap.size w w' := by
  by_cases h : 1 ≤ n ∧ n ≤ 24
  · obtain ⟨m, rfl⟩ : ∃ m : Nat, n = (m : Int) := ⟨n.toNat, by omega⟩
    have e1 : ndT (m : Int) = List.replicate m ⟨#[]⟩ := by unfold ndT; rw [if_pos h, Int.toNat_natCast]
    have e2 : ndZ (m : Int) = List.replicate m false := by unfold ndZ; rw [if_pos h, Int.toNat_natCast]
    have e3 : ndK (m : Int) = true := decide_eq_true h
    rw [e1, e2, e3]
    exact sNewDisk_yes m w (by omega) (by omega)
  · have e1 : ndT n = [] := if_neg h
    have e2 : ndZ n = [] := if_neg h
    have e3 : ndK n = false := decide_eq_false h
    rw [e1, e2, e3]
    exact (sNewDisk_no n w h).mono fun e w' ⟨he, hb⟩ => ⟨_, _, _, he, DskV.nil _ _ _, hb⟩
end Go.Proofs.Ytpgmocogffolaaa
