/-
  The cuts of a text by the program, call by call. No condition but that it is a text.
-/
import Derived.Test.YtaamkkfjafedgaaChi
import Derived.Test.YtaamkkfjafedgaaCbx
import Derived.Test.YtaamkkfjafedgaaInts
namespace Go.Proofs.Ytaamkkfjafedgaa
open Go.RowKit Go.Shelf
set_option linter.unusedVariables false
attribute [local go_sem] Oper.semAt_some

set_option maxRecDepth 100000 in
theorem isCutText_calls (s : ByteArray) (w : World) (hn : s.size ≤ maxLen) : Calls Try.prog 53 #[.string s] w fun e w' => e = .returned (.bool (decide (s.size ≤ 300))) ∧ w = w' := by
  unfold maxLen at hn
  have e : decide (s.size ≤ 300) = decide ((s.size : Int) ≤ 300) := decide_eq_decide.2 (by omega)
  rw [e]
  clear e
  go_enter Try.func53, Try.ntmps53
  go_wp2
  go_ret
  exact ⟨rfl, rfl⟩

/-- The cuts as numbers. -/
def cutsI (s : ByteArray) : List Int := (cutsN (bs s) s.size).map fun c : Nat => (c : Int)
def cutsV (s : ByteArray) : List Value := (cutsI s).map (Value.int .i64)
theorem cutsV_length (s : ByteArray) : (cutsV s).length = (cutsI s).length := by unfold cutsV; rw [List.length_map]
def cutsR (s : ByteArray) : List Int × Bool := if s.size ≤ 300 then (cutsI s, true) else ([], false)
theorem chunkArgs_cut {s : ByteArray} {i : Nat} {p : Nat × Nat} (h : (pairsN (bs s) s.size)[i]? = some p) : (cutsI s).take (i + 1) = (cutsI s).take i ++ [(p.2 : Int)] := by
  have hc : (cutsN (bs s) s.size)[i]? = some p.2 := by rw [← pairsN_cuts, List.getElem?_map, h]; rfl
  have hl : i < (cutsI s).length := by unfold cutsI; rw [List.length_map]; exact (List.getElem?_eq_some_iff.1 hc).1
  rw [List.take_succ_eq_append_getElem hl]
  congr 2
  have := List.getElem?_eq_getElem hl
  unfold cutsI at this ⊢
  rw [List.getElem?_map, hc] at this
  exact (Option.some.inj this).symm
theorem cutsV_step {s : ByteArray} {i : Nat} {p : Nat × Nat} (h : (pairsN (bs s) s.size)[i]? = some p) : (cutsV s).take (i + 1) = (cutsV s).take i ++ [.int .i64 (p.2 : Int)] := by
  unfold cutsV
  rw [← List.map_take, chunkArgs_cut h, List.map_append, List.map_take]
  rfl
theorem chunkArgs_cuts (s : ByteArray) : (chunkArgs s).length = (cutsI s).length := by
  rw [chunkArgs_length, cutsI, List.length_map, ← pairsN_cuts, List.length_map]
theorem cutsI_length (s : ByteArray) : (cutsI s).length ≤ s.size := by unfold cutsI; rw [List.length_map]; exact cutsN_len _ _

set_option maxRecDepth 100000 in
set_option maxHeartbeats 1000000 in
theorem cutsOf_calls (s : ByteArray) (w : World) (hn : s.size ≤ 1048576) :
    Calls Try.prog 14 #[.string s] w fun e w' => ∃ v, e = .returned (.tuple #[v, .bool (cutsR s).2]) ∧ Own w' w.heap.size v (cutsR s).1 ∧ Below w.heap.size w w' := by
  have hm : s.size ≤ maxLen := by unfold maxLen; omega
  by_cases h3 : s.size ≤ 300
  case neg =>
    rw [show cutsR s = ([], false) from if_neg h3]
    have hd := hide (decide_eq_false h3)
    go_enter Try.func14, Try.ntmps14
    go_wp2_with fail
    refine (isCutText_calls s _ hm).mono ?_
    rintro e w1 ⟨rfl, rfl⟩
    rw [hd.out]
    go_wp2
    go_ret2
    exact ⟨_, rfl, World.ownsRow_nil _ _ _ _, Below.refl _ _⟩
  rw [show cutsR s = (cutsI s, true) from if_pos h3]
  have hd := hide (decide_eq_true h3)
  have H3 := hide h3
  clear h3
  obtain ⟨i0, hi0, hz0, hz1, hz2⟩ := info_parts infoInt
  have IP := hide (And.intro hi0 (And.intro hz0 (And.intro hz1 hz2)))
  clear hi0 hz0 hz1 hz2
  have hlen := cutsI_length s
  obtain ⟨n, _⟩ : ∃ n : Nat, True := ⟨0, trivial⟩
  refine (callsIn_wide (n := n)).1 (callsIn_of_wp_marks Try.func14 rfl trivial ?_ rfl)
  simp only [Try.ntmps14, List.size_toArray, List.length_cons, List.length_nil, Nat.reduceAdd, Nat.reduceSub, Array.replicate_succ, Array.replicate_zero, List.push_toArray, List.append_toArray, List.nil_append, List.cons_append]
  gi_wp2_with fail
  refine wide_call (isCutText_calls s _ hm) ?_
  rintro e w1 ⟨rfl, rfl⟩
  rw [hd.out]
  gi_wp2_with fail
  refine wide_call (chunksIn_calls s _) ?_
  rintro e w1 ⟨rfl, rfl⟩
  rw [show ((w.alloc (.cells #[] 3)).alloc (.cells #[.slice (some ⟨w.heap.size, 0, none⟩) 0 0] 24)).heap.size = w.heap.size + 2 by simp]
  have b0 : Hid (Boxed (((w.alloc (.cells #[] 3)).alloc (.cells #[.slice (some ⟨w.heap.size, 0, none⟩) 0 0] 24)).alloc (.cells #[.string s] 9)) (w.heap.size + 1) 24 (.slice (some ⟨w.heap.size, 0, none⟩) 0 0)) := by
    have := (Boxed.new (w.alloc (.cells #[] 3)) 24 (.slice (some ⟨w.heap.size, 0, none⟩) 0 0)).alloc (.cells #[.string s] 9)
    simpa [Hid] using this
  have b1 : Hid (Boxed (((w.alloc (.cells #[] 3)).alloc (.cells #[.slice (some ⟨w.heap.size, 0, none⟩) 0 0] 24)).alloc (.cells #[.string s] 9)) (w.heap.size + 2) 9 (.string s)) := by
    have := Boxed.new ((w.alloc (.cells #[] 3)).alloc (.cells #[.slice (some ⟨w.heap.size, 0, none⟩) 0 0] 24)) 9 (.string s)
    simpa [Hid] using this
  have b2 : Hid (Below w.heap.size w (((w.alloc (.cells #[] 3)).alloc (.cells #[.slice (some ⟨w.heap.size, 0, none⟩) 0 0] 24)).alloc (.cells #[.string s] 9))) := (((Below.refl _ w).alloc (Nat.le_refl _) _).alloc (by simp) _).alloc (by simp; omega) _
  have b3 : Hid ((((w.alloc (.cells #[] 3)).alloc (.cells #[.slice (some ⟨w.heap.size, 0, none⟩) 0 0] 24)).alloc (.cells #[.string s] 9)).ownsRow w.heap.size 3 1 (.slice (some ⟨w.heap.size, 0, none⟩) 0 0) 0 []) := by
    have := World.ownsRow_lit (base := w.heap.size) (e := 3) (size := 1) w #[] 0 (Nat.le_refl _) (by unfold maxLen; omega) (by simp)
    exact (World.ownsRow.alloc (World.ownsRow.alloc (by simpa using this) _) _)
  have hsz : (((w.alloc (.cells #[] 3)).alloc (.cells #[.slice (some ⟨w.heap.size, 0, none⟩) 0 0] 24)).alloc (.cells #[.string s] 9)).heap.size = w.heap.size + 3 := by simp
  gi_wp2
  generalize ((w.alloc (.cells #[] 3)).alloc (.cells #[.slice (some ⟨w.heap.size, 0, none⟩) 0 0] 24)).alloc (.cells #[.string s] 9) = w0 at b0 b1 b2 b3 hsz ⊢
  refine wp_rangeI (gf := 87) (lb := #[.pointer (some ⟨w.heap.size + 2, 0, none⟩)]) rfl (enters_of Try.func87 (by kernel_rfl) rfl) (chunks1_iter s (w.heap.size + 2) hn) ?ps
    (fun i W => Coll W w.heap.size (w.heap.size + 9) w.heap.size (w.heap.size + 1) 24 3 ((cutsV s).take i) ∧ Boxed W (w.heap.size + 2) 9 (.string s) ∧ Below w.heap.size w W) ?ab (fun i A h => h.2.1.cell)
    ⟨⟨_, b0.out, b3.out, fun g hg => .inl (by simpa [Value.ownBlock] using hg.symm)⟩, b1.out, b2.out⟩ ?round ?done
  case ps => intro x hx; obtain ⟨k, hk⟩ := List.getElem?_of_mem hx; obtain ⟨p, _, rfl⟩ := chunkArgs_some hk; rfl
  case ab =>
    rintro i A B ⟨h1, h2, h3⟩ hs
    rw [hsz] at hs
    exact ⟨h1.spar hs (by omega) (by omega), hs.boxed h2 (.inl (by omega)), hs.below h3 (by omega) (Nat.le_refl _)⟩
  case round =>
    intro n' l i x W hx hi _
    obtain ⟨p, hp, rfl⟩ := chunkArgs_some hx
    have hst := hide (cutsV_step hp)
    have hil : i < (cutsI s).length := by rw [← chunkArgs_cuts]; exact (List.getElem?_eq_some_iff.1 hx).1
    clear hi hx hp
    obtain ⟨p1, p2⟩ := p
    simp only at hst ⊢
    gi_wp2
    refine ⟨trivial, ?_⟩
    rintro W2 ⟨⟨v, c1, c2, c3⟩, d2, d3⟩ hW2
    rw [hsz] at hW2
    have htl : ((cutsV s).take i).length = i := by rw [List.length_take, cutsV_length]; omega
    have hvc := c1.cell
    have D2 := hide d2
    have D3 := hide d3
    have C := hide (And.intro c1 (And.intro c2 c3))
    have hr : Hid (W2.ownsRow w.heap.size 3 1 v i ((cutsV s).take i)) := by
      show World.ownsRow _ _ _ _ _ _ _
      have := c2
      rwa [htl] at this
    have hb2 := d3.size
    clear c1 c2 c3 d2 d3
    gi_wp2_with (gi_at_builtin; refine wpListIn_append_own_at (w := W2.alloc (.cells #[.int .i64 (p2 : Int)] 3)) rfl _ _ 24 rfl w.heap.size 3 i0 (.int .i64 0) 1 8 Try.underlying24 IP.out.1 IP.out.2.1 IP.out.2.2.1 IP.out.2.2.2 rfl (by decide) v i _ rfl (hr.out.alloc _) ⟨W2.heap.size, 0, none⟩ 1 1 [.int .i64 (p2 : Int)] rfl rfl (cell_one_new _ _ _) (by simp [Value.oneCell']) (by unfold maxLen; omega) (by omega) (by simp; omega) ?_)
    intro v' w1 o1 g1 _ a1
    obtain ⟨g', cap', rfl⟩ := ownsRow_succ o1
    have o2 : w1.ownsRow w.heap.size 3 1 (.slice (some ⟨g', 0, none⟩) (i + 1) cap') (((cutsV s).take i).length + 1) ((cutsV s).take i ++ [.int .i64 (p2 : Int)]) := by
      rw [htl]; exact o1
    obtain ⟨q1, q2, q3, q4⟩ := coll_step (lo := w.heap.size + 3) (c0 := w.heap.size + 5) (c1 := w.heap.size + 9) (n0 := w.heap.size) C.out.1 C.out.2.1 C.out.2.2 (by omega) (by omega) (by omega) (by omega) (by omega) (by omega) (by omega) (by omega) o2 g1 a1
    have r1 := q1.cell
    have r2 := q1.frozen
    have Q := hide (And.intro q2 (And.intro q3 q4))
    have d2' := hide (boxed_other ((D2.out.alloc (.cells #[.int .i64 (p2 : Int)] 3)).kept g1 (fun e' => by have := C.out.2.2 _ e'.symm; omega)) (B' := w.heap.size + 1) (by omega) (.slice (some ⟨g', 0, none⟩) (i + 1) cap'))
    clear q1 q2 q3 q4 o1 o2 g1 a1
    gi_wp2
    refine ⟨Q.out.2.1, ?_, d2'.out, D3.out.trans Q.out.2.2⟩
    rw [hst.out]
    exact Q.out.1
  case done =>
    rintro W ⟨⟨v, c1, c2, c3⟩, d2, d3⟩ hD _
    rw [chunkArgs_cuts, ← cutsV_length, List.take_length] at c2
    have hc1 := c1.cell
    have D := hide (And.intro c2 d3)
    clear c2 d3 c1
    gi_wp2
    refine ⟨by simp, .inl ⟨_, _, rfl, run_takeDeferred hD, ?_⟩⟩
    refine ⟨_, results_tmp2 rfl _ _ _, ?_⟩
    refine ⟨_, rfl, ?_, (Spar.putObj (lo := w.heap.size) (c0 := 0) (c1 := 0) _ hD rfl (by omega)).below D.out.2 (Nat.le_refl _) (Nat.le_refl _)⟩
    have := D.out.1
    rw [cutsV_length] at this
    exact ownsRow_putObj this _ hD rfl
end Go.Proofs.Ytaamkkfjafedgaa
