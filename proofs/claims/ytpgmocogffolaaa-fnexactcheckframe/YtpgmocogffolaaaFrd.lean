/-
  A frame read: the program's ReadFrame and CheckFrame, call by call. No condition but a bound on the text's length.
-/
import Derived.Test.YtpgmocogffolaaaFrw
import Derived.Deep.RegionHeld3
namespace Go.Proofs.Ytpgmocogffolaaa
open Go.RowKit
set_option linter.unusedVariables false

theorem box_at {w w1 : World} {cs : Array Value} {T : TypeId} (h : Below (w.alloc (.cells cs T)).heap.size (w.alloc (.cells cs T)) w1) : w1.heap[w.heap.size]? = some (.cells cs T (0, 0)) :=
  (h.block w.heap.size (by simp)).trans (heap_alloc_new w _)
/-- The cells of a frame's block. -/
theorem cells4 {w : World} {p : Nat} {a b c d : Value} {T : TypeId} (h : w.heap[p]? = some (.cells #[a, b, c, d] T (0, 0))) :
    (w.cell? ⟨p, 0, none⟩ = some a ∧ w.cell? ⟨p, 1, none⟩ = some b ∧ w.cell? ⟨p, 2, none⟩ = some c ∧ w.cell? ⟨p, 3, none⟩ = some d) ∧
    w.frozen? ⟨p, 0, none⟩ = false ∧ w.frozen? ⟨p, 1, none⟩ = false ∧ w.frozen? ⟨p, 2, none⟩ = false ∧ w.frozen? ⟨p, 3, none⟩ = false := by
  refine ⟨⟨?_, ?_, ?_, ?_⟩, frozen_of_row w p 0 _ _ h, frozen_of_row w p 1 _ _ h, frozen_of_row w p 2 _ _ h, frozen_of_row w p 3 _ _ h⟩ <;>
  rw [cell_of_row w p _ _ _ _ h] <;> rfl
theorem store4_alloc {w : World} {p : Nat} {a b c d : Value} {T : TypeId} (h : w.heap[p]? = some (.cells #[a, b, c, d] T (0, 0))) (v0 v1 v2 v3 : Value) (o : Obj) :
    (((((w.setCell ⟨p, 0, none⟩ v0).setCell ⟨p, 1, none⟩ v1).setCell ⟨p, 2, none⟩ v2).setCell ⟨p, 3, none⟩ v3).alloc o).heap[p]? = some (.cells #[v0, v1, v2, v3] T (0, 0)) := by
  have h4 := store4 h v0 v1 v2 v3
  rw [Below.heap_alloc _ _ _ (Array.getElem?_eq_some_iff.1 h4).1]
  exact h4
theorem below4_alloc {w w' : World} {B p : Nat} (h : Below B w w') (hB : B ≤ w.heap.size) (hp : B ≤ p) (v0 v1 v2 v3 : Value) (o : Obj) :
    Below B w (((((w'.setCell ⟨p, 0, none⟩ v0).setCell ⟨p, 1, none⟩ v1).setCell ⟨p, 2, none⟩ v2).setCell ⟨p, 3, none⟩ v3).alloc o) := by
  have h4 := below4 h hp v0 v1 v2 v3
  exact h4.alloc (Nat.le_trans hB h4.size) o
theorem rw_cases (s : ByteArray) : (rwR s).ok = true ∧ (rwR s).code = 0 ∨ rwR s = frNo 3 := by
  unfold rwR
  split
  · exact .inl ⟨rfl, rfl⟩
  · exact .inr rfl

set_option maxRecDepth 100000 in
set_option maxHeartbeats 1600000 in
theorem readFrame_calls (s : ByteArray) (w : World) (hsz : s.size ≤ maxLen) :
    Calls Try.prog 51 #[.string s] w fun e w' => e = .returned (.tuple #[.agg #[.int .i64 (rdR s).K, .int .i64 (rdR s).A, .int .i64 (rdR s).E, .string (rdR s).B], .int .i64 (rdR s).code, .bool (rdR s).ok]) ∧ Below w.heap.size w w' := by
  unfold maxLen at hsz
  have B0 := hide (below_box w (.cells #[.int .i64 0, .int .i64 0, .int .i64 0, .string ⟨#[]⟩] 69))
  by_cases h28 : s.size = 28
  case neg =>
    have er : rdR s = frNo 1 := if_neg h28
    have hne : ¬ (s.size : Int) = 28 := by omega
    have hneb : ((s.size : Int) == 28) = false := by simp; omega
    rw [er]
    clear er h28
    go_enter Try.func51, Try.ntmps51
    go_wp2
    (try simp only [Exit.inBlock, Exit.then])
    exact bodyPost_ret (res_frame3 rfl _ _ w.heap.size 0 0 0 ⟨#[]⟩ (0, 0) rfl (heap_alloc_new w _)) rfl ⟨rfl, below_box w _⟩
  have H28 := hide h28
  have h28i : (s.size : Int) = 28 := by omega
  have hT : bs (s.extract 0 24) = (bs s).take 24 := bs_take s 24
  have hD : bs (s.extract 24 28) = (bs s).drop 24 := by rw [← h28]; exact bs_drop s 24
  have hts : (s.extract 0 24).size ≤ 400 := by rw [← bs_length, hT, List.length_take, bs_length]; omega
  have C54 : Hid (∀ w', Calls Try.prog 103 #[.string (s.extract 0 24)] w' fun e w'' => e = .returned (.string (ofN (low4 (Crc.on 0 ((bs s).take 24))))) ∧ Below w'.heap.size w' w'') := by
    show ∀ w', _
    intro w'
    have := sumBytes_calls (s.extract 0 24) w' hts
    rw [hT] at this
    exact this
  have CASES : Hid ((s.extract 24 28 = ofN (low4 (Crc.on 0 ((bs s).take 24))) ∧ rdR s = rwR s) ∨ (¬ s.extract 24 28 = ofN (low4 (Crc.on 0 ((bs s).take 24))) ∧ rdR s = frNo 2)) := by
    show _ ∨ _
    by_cases he : (bs s).drop 24 = low4 (Crc.on 0 ((bs s).take 24))
    · left
      refine ⟨?_, ?_⟩
      · apply bs_inj
        rw [hD, bs_ofN (low4_small _)]
        exact he
      · unfold rdR
        rw [if_pos h28, if_pos he]
        rfl
    · right
      refine ⟨fun h => he ?_, ?_⟩
      · rw [← hD, h, bs_ofN (low4_small _)]
      · unfold rdR
        rw [if_pos h28, if_neg he]
  generalize ofN (low4 (Crc.on 0 ((bs s).take 24))) = Y at C54 CASES
  clear hT hts hD
  have FX : Hid (∀ w1 : World, Below (w.alloc (.cells #[.int .i64 0, .int .i64 0, .int .i64 0, .string ⟨#[]⟩] 69)).drew.heap.size (w.alloc (.cells #[.int .i64 0, .int .i64 0, .int .i64 0, .string ⟨#[]⟩] 69)).drew w1 →
      Below w.heap.size w w1 ∧ w.heap.size < w1.heap.size ∧ w1.heap[w.heap.size]? = some (.cells #[.int .i64 0, .int .i64 0, .int .i64 0, .string ⟨#[]⟩] 69 (0, 0))) := by
    show ∀ w1 : World, _
    intro w1 b1
    have b2 : Below (w.alloc (.cells #[.int .i64 0, .int .i64 0, .int .i64 0, .string ⟨#[]⟩] 69)).heap.size (w.alloc (.cells #[.int .i64 0, .int .i64 0, .int .i64 0, .string ⟨#[]⟩] 69)) w1 := (Below.refl _ _).drew.trans b1
    exact ⟨B0.out.trans (b2.mono (by simp)), by have := b2.size; simp at this; omega, box_at b2⟩
  rcases CASES.out with ⟨he, er⟩ | ⟨he, er⟩
  case inr =>
    have hsl : ¬ (s.extract 24 28).toList = Y.toList := fun h => he (toList_inj h)
    have hslb : ((s.extract 24 28).toList == Y.toList) = false := by simpa using hsl
    have ER := hide er
    clear he er CASES
    go_enter Try.func51, Try.ntmps51
    go_wp2
    go_region_held3 (fun _ => True) (trivial) ((go_at_call 103; refine (C54.out _).mono ?_; rintro e' w1 ⟨rfl, b1⟩))
    obtain ⟨s1, l1, h1⟩ := FX.out _ b1
    have S1 := hide s1
    have H1 := hide h1
    obtain ⟨⟨p0, p1, p2, p3⟩, q0, q1, q2, q3⟩ := cells4 h1
    clear s1 h1 b1
    go_wp2
    (try simp only [Exit.inBlock, Exit.then])
    exact bodyPost_ret (res_frame3 rfl _ _ w.heap.size 0 0 0 ⟨#[]⟩ (0, 0) rfl (store4 H1.out _ _ _ _)) rfl ⟨by rw [ER.out]; rfl, below4 S1.out (Nat.le_refl _) _ _ _ _⟩
  have ER := hide er
  rw [← he] at C54
  clear he er CASES
  go_enter Try.func51, Try.ntmps51
  go_wp2
  go_region_held3 (fun _ => True) (trivial) ((go_at_call 103; refine (C54.out _).mono ?_; rintro e' w1 ⟨rfl, b1⟩))
  obtain ⟨s1, l1, h1⟩ := FX.out _ b1
  have S1 := hide s1
  have H1 := hide h1
  clear s1 h1 b1
  go_wp2_with fail
  refine (frameWith_calls s _ H28.out).mono ?_
  rintro e' w2 ⟨rfl, b2⟩
  have S2 := hide (S1.out.trans (b2.mono S1.out.size))
  have h2 : w2.heap[w.heap.size]? = some (.cells #[.int .i64 0, .int .i64 0, .int .i64 0, .string ⟨#[]⟩] 69 (0, 0)) := (b2.block w.heap.size l1).trans H1.out
  have l2 : w.heap.size < w2.heap.size := Nat.lt_of_lt_of_le l1 b2.size
  clear b2
  have RC := hide (rw_cases s)
  generalize rwR s = R at ER RC ⊢
  obtain ⟨K, A, E, B, code, ok⟩ := R
  simp only []
  have H2 := hide h2
  obtain ⟨⟨p0, p1, p2, p3⟩, q0, q1, q2, q3⟩ := cells4 h2
  clear h2
  have hne : ¬ w2.heap.size = w.heap.size := by omega
  have hne' : ¬ w.heap.size = w2.heap.size := by omega
  rcases RC.out with ⟨h5, h6⟩ | h5
  · simp only [] at h5 h6
    subst h5
    subst h6
    go_wp2
    (try simp only [Exit.inBlock, Exit.then])
    exact bodyPost_ret (res_frame3 rfl _ _ w.heap.size K A E B (0, 0) rfl (store4_alloc H2.out _ _ _ _ _)) rfl ⟨by rw [ER.out]; rfl, below4_alloc S2.out (Nat.le_refl _) (Nat.le_refl _) _ _ _ _ _⟩
  · have h5' := h5
    unfold frNo at h5'
    simp only [Fr.mk.injEq] at h5'
    obtain ⟨rfl, rfl, rfl, rfl, rfl, rfl⟩ := h5'
    clear h5
    go_wp2
    (try simp only [Exit.inBlock, Exit.then])
    exact bodyPost_ret (res_frame3 rfl _ _ w.heap.size 0 0 0 ⟨#[]⟩ (0, 0) rfl (store4_alloc H2.out _ _ _ _ _)) rfl ⟨by rw [ER.out]; rfl, below4_alloc S2.out (Nat.le_refl _) (Nat.le_refl _) _ _ _ _ _⟩

set_option maxRecDepth 100000 in
set_option maxHeartbeats 1600000 in
theorem checkFrame_calls (s : ByteArray) (kind at_ least : Int) (w : World) (hsz : s.size ≤ maxLen) :
    Calls Try.prog 54 #[.string s, .int .i64 kind, .int .i64 at_, .int .i64 least] w fun e w' => e = .returned (.tuple #[.agg #[.int .i64 (ckR s kind at_ least).K, .int .i64 (ckR s kind at_ least).A, .int .i64 (ckR s kind at_ least).E, .string (ckR s kind at_ least).B], .int .i64 (ckR s kind at_ least).code, .bool (ckR s kind at_ least).ok]) ∧ Below w.heap.size w w' := by
  have B0 := hide (below_box w (.cells #[.int .i64 0, .int .i64 0, .int .i64 0, .string ⟨#[]⟩] 69))
  have hok : (rdR s).ok = true → (rdR s).code = 0 := by
    unfold rdR
    split <;> (try split) <;> (try split) <;> simp [frNo]
  rcases hR : rdR s with ⟨K, A, E, B, code, ok⟩
  rw [hR] at hok
  simp only [] at hok
  have HR := hide hR
  have HS := hide hsz
  clear hsz
  go_enter Try.func54, Try.ntmps54
  go_wp2_with fail
  refine (readFrame_calls s _ HS.out).mono ?_
  rintro e' w2 ⟨rfl, b2⟩
  rw [HR.out]
  simp only []
  have h2 := box_at b2
  have S2 := hide (B0.out.trans (b2.mono (by simp)))
  have l2 : w.heap.size < w2.heap.size := by have := b2.size; simp at this; omega
  clear b2
  have H2 := hide h2
  obtain ⟨⟨p0, p1, p2, p3⟩, q0, q1, q2, q3⟩ := cells4 h2
  clear h2
  have hne : ¬ w2.heap.size = w.heap.size := by omega
  have hne' : ¬ w.heap.size = w2.heap.size := by omega
  cases ok with
  | false =>
    have er : ckR s kind at_ least = frNo code := by unfold ckR; rw [hR]; rfl
    have ER := hide er
    clear er hok hR
    · go_wp2
      (try simp only [Exit.inBlock, Exit.then])
      exact bodyPost_ret (res_frame3 rfl _ _ w.heap.size 0 0 0 ⟨#[]⟩ (0, 0) rfl (store4_alloc H2.out _ _ _ _ _)) rfl ⟨by rw [ER.out]; rfl, below4_alloc S2.out (Nat.le_refl _) (Nat.le_refl _) _ _ _ _ _⟩

  | true =>
    obtain rfl := hok rfl
    clear hok
    by_cases h1 : K = kind
    case neg =>
      have er : ckR s kind at_ least = frNo 3 := by unfold ckR; rw [hR, if_pos rfl, if_neg h1]
      have ER := hide er
      have h1b : (K == kind) = false := by simpa using h1
      clear er hR
      go_wp2
      (try simp only [Exit.inBlock, Exit.then])
      exact bodyPost_ret (res_frame3 rfl _ _ w.heap.size 0 0 0 ⟨#[]⟩ (0, 0) rfl (store4_alloc H2.out _ _ _ _ _)) rfl ⟨by rw [ER.out]; rfl, below4_alloc S2.out (Nat.le_refl _) (Nat.le_refl _) _ _ _ _ _⟩

    by_cases h2 : A = at_
    case neg =>
      have er : ckR s kind at_ least = frNo 4 := by unfold ckR; rw [hR, if_pos rfl, if_pos h1, if_neg h2]
      have ER := hide er
      have h2b : (A == at_) = false := by simpa using h2
      subst h1
      clear er hR
      go_wp2
      (try simp only [Exit.inBlock, Exit.then])
      exact bodyPost_ret (res_frame3 rfl _ _ w.heap.size 0 0 0 ⟨#[]⟩ (0, 0) rfl (store4_alloc H2.out _ _ _ _ _)) rfl ⟨by rw [ER.out]; rfl, below4_alloc S2.out (Nat.le_refl _) (Nat.le_refl _) _ _ _ _ _⟩

    by_cases h3 : least ≤ E
    case neg =>
      have er : ckR s kind at_ least = frNo 5 := by unfold ckR; rw [hR, if_pos rfl, if_pos h1, if_pos h2, if_neg h3]
      have ER := hide er
      have h3' : E < least := by omega
      subst h1
      subst h2
      clear er hR
      go_wp2
      (try simp only [Exit.inBlock, Exit.then])
      exact bodyPost_ret (res_frame3 rfl _ _ w.heap.size 0 0 0 ⟨#[]⟩ (0, 0) rfl (store4_alloc H2.out _ _ _ _ _)) rfl ⟨by rw [ER.out]; rfl, below4_alloc S2.out (Nat.le_refl _) (Nat.le_refl _) _ _ _ _ _⟩

    · have er : ckR s kind at_ least = ⟨K, A, E, B, 0, true⟩ := by unfold ckR; rw [hR, if_pos rfl, if_pos h1, if_pos h2, if_pos h3]
      have ER := hide er
      have h3' : ¬ E < least := by omega
      subst h1
      subst h2
      clear er hR
      go_wp2
      (try simp only [Exit.inBlock, Exit.then])
      exact bodyPost_ret (res_frame3 rfl _ _ w.heap.size K A E B (0, 0) rfl (store4_alloc H2.out _ _ _ _ _)) rfl ⟨by rw [ER.out]; rfl, below4_alloc S2.out (Nat.le_refl _) (Nat.le_refl _) _ _ _ _ _⟩
end Go.Proofs.Ytpgmocogffolaaa
