/-
  The chunks of a text by the model, call by call. No condition but that it is a text.
-/
import Derived.Test.YthmijjcddjlebaaCho
namespace Go.Proofs.Ythmijjcddjlebaa
open Go.RowKit
set_option linter.unusedVariables false

theorem getLastD_cons9 (C : List Nat) : (0 :: C).getD C.length 0 = C.getLastD 0 := by
  rcases List.eq_nil_or_concat C with rfl | ⟨D, x, rfl⟩
  · rfl
  · rw [List.concat_eq_append, List.getLastD_concat, List.length_append]
    simp [List.getD_eq_getElem?_getD]
/-- A pair begins where the one ahead ends. -/
theorem pairsN_fst (l : List Nat) (k : Nat) : ∀ (i : Nat) (p : Nat × Nat), (pairsN l k)[i]? = some p → p.1 = (0 :: cutsN l k).getD i 0 := by
  induction k with
  | zero => intro i p h; simp [pairsN] at h
  | succ k ih =>
    intro i p h
    have hlen : (pairsN l k).length = (cutsN l k).length := by rw [← pairsN_cuts, List.length_map]
    cases hc : cutAt l (lastC l k) (k + 1)
    · rw [pairsN_no hc] at h
      rw [cutsN_no hc]
      exact ih i p h
    · rw [pairsN_yes hc] at h
      rw [cutsN_yes hc]
      by_cases hi : i < (pairsN l k).length
      · rw [List.getElem?_append_left hi] at h
        rw [ih i p h]
        rw [← List.cons_append, List.getD_eq_getElem?_getD, List.getD_eq_getElem?_getD, List.getElem?_append_left (by simp; omega)]
      · have hi2 : i = (pairsN l k).length := by
          have := (List.getElem?_eq_some_iff.1 h).1
          rw [List.length_append] at this
          simp at this
          omega
        subst hi2
        rw [List.getElem?_append_right (Nat.le_refl _), Nat.sub_self] at h
        cases h
        rw [← List.cons_append, List.getD_eq_getElem?_getD, List.getElem?_append_left (by simp; omega), ← List.getD_eq_getElem?_getD, hlen, getLastD_cons9]
        rfl
theorem pairs_some (s : ByteArray) (i : Nat) (h : i < (cutsI s).length) : ∃ p, (pairsN (bs s) s.size)[i]? = some p ∧ (cutsI s).getD i 0 = (p.2 : Int) ∧ p.1 = (0 :: cutsN (bs s) s.size).getD i 0 ∧ p.1 ≤ p.2 ∧ p.2 ≤ s.size ∧ p.2 = (0 :: cutsN (bs s) s.size).getD (i + 1) 0 := by
  have hl : i < (pairsN (bs s) s.size).length := by rw [← chunkArgs_length, chunkArgs_cuts]; exact h
  obtain ⟨p, hp⟩ : ∃ p, (pairsN (bs s) s.size)[i]? = some p := ⟨_, List.getElem?_eq_getElem hl⟩
  have hc : (cutsN (bs s) s.size)[i]? = some p.2 := by rw [← pairsN_cuts, List.getElem?_map, hp]; rfl
  refine ⟨p, hp, ?_, pairsN_fst _ _ i p hp, (pairsN_mem _ p (List.mem_of_getElem? hp)).1, (pairsN_mem _ p (List.mem_of_getElem? hp)).2, ?_⟩
  · unfold cutsI
    rw [List.getD_eq_getElem?_getD, List.getElem?_map, hc]
    rfl
  · rw [List.getD_eq_getElem?_getD, List.getElem?_cons_succ, hc]
    rfl

set_option maxRecDepth 100000 in
set_option maxHeartbeats 1000000 in
theorem l9Chunks_calls (s : ByteArray) (w : World) (hn : s.size ≤ 1048576) :
    Calls Try.prog 66 #[.string s] w fun e w' => ∃ v, e = .returned v ∧ OwnT w' w.heap.size v (chunksT s) ∧ Below w.heap.size w w' := by
  obtain ⟨i0, hi0, hz0, hz1, hz2⟩ := info_parts infoStr
  have IP := hide (And.intro hi0 (And.intro hz0 (And.intro hz1 hz2)))
  clear hi0 hz0 hz1 hz2
  have hlen := cutsI_length s
  have hle : (chunksV s).length = (cutsI s).length := by rw [chunksV_length, ← chunkArgs_cuts9, chunkArgs_cuts]
  go_enter Try.func66, Try.ntmps66
  go_wp2_with fail
  refine (l9Cuts_calls s _ hn).mono ?_
  rintro e w1 ⟨vc, rfl, oc, bc⟩
  have RC := hide oc.rd
  have BC := hide bc
  obtain ⟨ac, cc, rfl⟩ := own_slice9 oc
  clear oc bc
  have O0 : Hid (w1.ownsRow w1.heap.size 9 1 (.slice none 0 0) 0 ((chunksV s).take 0)) := World.ownsRow_nil _ _ _ _
  go_wp2
  go_loopw [3, 4, 10] (fun vo vl vi wr => ∃ k : Nat, k ≤ (cutsI s).length ∧ vi = .int .i64 k ∧ vl = .int .i64 (((0 :: cutsN (bs s) s.size).getD k 0 : Nat) : Int) ∧ wr.ownsRow w1.heap.size 9 1 vo k ((chunksV s).take k) ∧ Below w1.heap.size w1 wr) (fun _ _ vi _ => (cutsI s).length - (intOf vi).toNat)
  case atStart => exact ⟨0, Nat.zero_le _, rfl, rfl, O0.out, Below.refl _ _⟩
  case round =>
    obtain ⟨k, hk, rfl, rfl, hown, hb1⟩ := hrel
    have O := hide hown
    have HB1 := hide hb1
    have hbs := hb1.size
    clear hown hb1
    by_cases hlt : k < (cutsI s).length
    · obtain ⟨p, hp, e1, e2, e3, e4, e5⟩ := pairs_some s k hlt
      have hst := hide (chunksV_step hp)
      have R := RC.out.below HB1.out
      obtain ⟨a', cap', hv, _, _, h3⟩ := R
      rcases h3 with h3 | ⟨b, off, ha, hbl, hc⟩
      · rw [h3] at hlt; simp at hlt
      subst ha
      simp only [Value.slice.injEq] at hv
      obtain ⟨rfl, _, rfl⟩ := hv
      have hck := hc k hlt
      rw [e1] at hck
      rw [← e2]
      have E5 := hide e5
      obtain ⟨p1, p2⟩ := p
      simp only at e3 e4 E5 hst hck ⊢
      have u1 : (0 : Int) ≤ (p2 : Int) := by omega
      have u2 : (p2 : Int) ≤ (s.size : Int) := by omega
      have u3 : (p1 : Int) ≤ (p2 : Int) := by omega
      have hlt' : (k : Int) < ((cutsI s).length : Int) := by omega
      clear hc e1 e2 e5 hp
      obtain ⟨c, hcc⟩ : ∃ c, c = s.extract p1 p2 := ⟨_, rfl⟩
      rw [← hcc] at hst
      have hcc' := hcc.symm
      clear hcc
      go_wp2_with (at_builtin; refine wpList_append_own (w := wr.alloc (.cells #[.string c] 9)) rfl _ _ _ rfl w1.heap.size 9 i0 (.string ⟨#[]⟩) 1 16 Try.underlying23 IP.out.1 IP.out.2.1 IP.out.2.2.1 IP.out.2.2.2 rfl (by decide) _ k _ rfl (O.out.alloc _) ⟨wr.heap.size, 0, none⟩ 1 1 [.string c] rfl rfl (cell_one_new _ _ _) (by simp [Value.oneCell']) (by unfold maxLen; omega) (by omega) (by simp; omega) ?_)
      intro v' w2 o2 g2 _
      have B2 := hide ((HB1.out.alloc hbs (.cells #[.string c] 9)).grown g2 (by simp; omega) (own_ge9 O.out))
      have O1 := hide o2
      clear o2 g2 hcc'
      go_wp2
      go_roundw
      case rel => exact ⟨k + 1, by omega, by go_num, by rw [E5.out], by rw [hst.out]; exact O1.out, B2.out⟩
      case measure => simp [intOf]; omega
    · obtain rfl : k = (cutsI s).length := by omega
      have hlt' : ¬ ((cutsI s).length : Int) < ((cutsI s).length : Int) := by omega
      have O2 : Hid (∀ v, wr.ownsRow w1.heap.size 9 1 v (cutsI s).length ((chunksV s).take (cutsI s).length) → OwnT wr w1.heap.size v (chunksT s)) := by
        intro v this
        rw [← hle, List.take_length, chunksV_length] at this
        exact this
      go_wp2
      go_ret
      exact ⟨_, rfl, (O2.out _ O.out).mono BC.out.size, BC.out.trans (HB1.out.mono BC.out.size)⟩

set_option maxRecDepth 100000 in
theorem sChunksOf_calls (s : ByteArray) (w : World) (hn : s.size ≤ 1048576) :
    Calls Try.prog 74 #[.string s] w fun e w' => ∃ v, e = .returned (.tuple #[v, .bool (chunksR s).2]) ∧ OwnT w' w.heap.size v (chunksR s).1 ∧ Below w.heap.size w w' := by
  by_cases h3 : s.size ≤ 300
  · rw [show chunksR s = (chunksT s, true) from if_pos h3]
    have h' : ¬ (300 : Int) < (s.size : Int) := by omega
    go_enter Try.func74, Try.ntmps74
    go_wp2_with fail
    refine (l9Chunks_calls s _ hn).mono ?_
    rintro e w1 ⟨v, rfl, o1, b1⟩
    go_wp2
    go_ret2
    exact ⟨_, rfl, o1, b1⟩
  · rw [show chunksR s = ([], false) from if_neg h3]
    have h' : (300 : Int) < (s.size : Int) := by omega
    go_enter Try.func74, Try.ntmps74
    go_wp2
    go_ret2
    exact ⟨_, rfl, World.ownsRow_nil _ _ _ _, Below.refl _ _⟩
theorem chunksR_facts (s : ByteArray) : (chunksR s).1.length ≤ 300 ∧ ∀ t ∈ (chunksR s).1, t.size ≤ maxLen := by
  unfold chunksR
  split
  · refine ⟨by have := chunksT_length s; show (chunksT s).length ≤ 300; omega, fun t ht => ?_⟩
    obtain ⟨p, _, rfl⟩ := List.mem_map.1 (show t ∈ chunksT s from ht)
    have := ext_le9 s p.1 p.2
    unfold maxLen
    omega
  · exact ⟨Nat.zero_le _, fun t ht => by cases ht⟩
end Go.Proofs.Ythmijjcddjlebaa
