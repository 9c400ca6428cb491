/-
  Pieces held against pieces: the program's arrays and its model's lists, call by call. Each contract says what it asks.
-/
import Derived.Test.YtiojipicincgfaaDoorPieces
import Derived.Test.YtiojipicincgfaaDoorCat
import Derived.Deep.WholeRow
import Derived.ChangeKeysEq
namespace Go.Proofs.YtiojipicincgfaaDoor
open Go.RowKit

def padL (r : List Int) : List Int := r ++ List.replicate (32 - r.length) 0
def padA (r : List Int) : Array Value := ((padL r).map (Value.int .i64)).toArray
theorem padL_length (r : List Int) (h : r.length ≤ 32) : (padL r).length = 32 := by simp [padL]; omega
theorem padA_size (r : List Int) (h : r.length ≤ 32) : (padA r).size = 32 := by simp [padA, padL_length r h]
theorem padA_one (r : List Int) : (padA r).all (·.oneCell') = true := by
  rw [Array.all_eq_true_iff_forall_mem]
  intro v hv
  simp only [padA, List.mem_toArray, List.mem_map] at hv
  obtain ⟨x, _, rfl⟩ := hv
  rfl
theorem padA_nil : padA [] = #[.int .i64 0, .int .i64 0, .int .i64 0, .int .i64 0, .int .i64 0, .int .i64 0, .int .i64 0, .int .i64 0, .int .i64 0, .int .i64 0, .int .i64 0, .int .i64 0, .int .i64 0, .int .i64 0, .int .i64 0, .int .i64 0, .int .i64 0, .int .i64 0, .int .i64 0, .int .i64 0, .int .i64 0, .int .i64 0, .int .i64 0, .int .i64 0, .int .i64 0, .int .i64 0, .int .i64 0, .int .i64 0, .int .i64 0, .int .i64 0, .int .i64 0, .int .i64 0] := by rfl
theorem zeros1 : (#[.int .i64 0, .int .i64 0, .int .i64 0, .int .i64 0, .int .i64 0, .int .i64 0, .int .i64 0, .int .i64 0, .int .i64 0, .int .i64 0, .int .i64 0, .int .i64 0, .int .i64 0, .int .i64 0, .int .i64 0, .int .i64 0, .int .i64 0, .int .i64 0, .int .i64 0, .int .i64 0, .int .i64 0, .int .i64 0, .int .i64 0, .int .i64 0, .int .i64 0, .int .i64 0, .int .i64 0, .int .i64 0, .int .i64 0, .int .i64 0, .int .i64 0, .int .i64 0] : Array Value).all (·.oneCell') = true := by
  rw [← padA_nil]
  exact padA_one []
theorem wholeInfo : (Tryd.prog.info? 80).map (·.size) = some 32 := by kernel_rfl
theorem wholeUnder : Tryd.prog.underlying 80 = some (.array 32 3) := by kernel_rfl
theorem padA_copy (r : List Int) : ((padA []).toList.take 0 ++ (r.map (Value.int .i64) ++ (padA []).toList.drop (0 + (r.map (Value.int .i64)).length))).toArray = padA r := by
  have e : (padA []).toList = List.replicate 32 (Value.int .i64 0) := by unfold padA padL; simp only [List.nil_append, List.length_nil, Nat.sub_zero, List.map_replicate]
  rw [e, List.take_zero, List.nil_append, List.drop_replicate, List.length_map, Nat.zero_add]
  unfold padA padL
  rw [List.map_append, List.map_replicate]
theorem setRow2 (w : World) (A : Obj) (c c' : Array Value) (t : TypeId) : ((w.alloc A).alloc (.cells c t)).setRow (w.heap.size + 1) c' = (w.alloc A).alloc (.cells c' t) := by
  have := World.setRow_alloc_new (w.alloc A) c c' t
  have e : (w.alloc A).heap.size = w.heap.size + 1 := by simp
  rwa [e] at this

theorem copy_whole {w2 : World} {g : Nat} {Z PR : Array Value} {a : Option Addr} {cap : Nat} {r : List Int} (hg : w2.heap[g]? = some (.cells Z 80 (0, 0))) (hr : Rd w2 (.slice a r.length cap) r) (hl : r.length ≤ 32) (hz : Z.size = 32)
    (hc : (Z.toList.take 0 ++ (r.map (Value.int .i64) ++ Z.toList.drop (0 + (r.map (Value.int .i64)).length))).toArray = PR) :
    ∃ w3, (Builtin.copy_ #[39, 39] 3 #[.slice (some ⟨g, 0, none⟩) 32 32, .slice a r.length cap]).run Tryd.prog w2 = .ok (goInt r.length) w3 ∧ w3.heap[g]? = some (.cells PR 80 (0, 0)) ∧ w2.grownBy w3 (some g) := by
  obtain ⟨a', cap', hv, _, _, h3⟩ := hr
  simp only [Value.slice.injEq, true_and] at hv
  obtain ⟨rfl, rfl⟩ := hv
  rcases h3 with h3 | ⟨b, off, rfl, _, hcell⟩
  · subst h3
    refine ⟨w2, run_copy_none (P := Tryd.prog) w2 _ _ _ 3 _ _ _ _ _ _ Tryd.underlying39 infoSize (by simp), ?_, World.grownBy.refl _ _⟩
    have : PR = Z := by rw [← hc]; simp
    rw [this]
    exact hg
  · have hrun := run_copy_row (P := Tryd.prog) w2 39 39 3 3 g 0 32 32 ⟨b, off, none⟩ r.length cap Z 80 (r.map (Value.int .i64)) Tryd.underlying39 infoSize hg (by rw [List.length_map]; exact (Nat.min_eq_left hl).symm) (fun j y hj => by
      have hjl : j < r.length := by simpa using (List.getElem?_eq_some_iff.1 hj).1
      have hadd : (⟨b, off, none⟩ : Addr).add j = ⟨b, off + j, none⟩ := by unfold Addr.add; split <;> simp_all
      rw [hadd, hcell j hjl]
      rw [List.getElem?_map, List.getElem?_eq_getElem hjl] at hj
      simp only [Option.map_some, Option.some.injEq] at hj
      rw [← hj, List.getD_eq_getElem?_getD, List.getElem?_eq_getElem hjl, Option.getD_some]) (by simp; omega) (ints_oneCell _ _)
    rw [List.append_assoc, hc, List.length_map] at hrun
    exact ⟨_, hrun, setRow_heap w2 g _ PR 80 _ hg, rfl, rfl, rfl, by simp [World.setRow], fun k _ hk => setRow_other w2 g k _ (fun e => hk (by simp [e]))⟩

set_option maxRecDepth 100000 in
set_option maxHeartbeats 1600000 in
theorem wholeOf_calls (v : Value) (r : List Int) (w : World) (h : Rd w v r) (hl : r.length ≤ 32) :
    Calls Tryd.prog 65 #[v] w fun e w' => e = .returned (.agg (padA r)) ∧ Below w.heap.size w w' := by
  have R := hide h
  obtain ⟨a, cap, rfl, _⟩ := h
  obtain ⟨Z, hZ⟩ : ∃ Z, Z = padA [] := ⟨_, rfl⟩
  have Zsz : Hid (Z.size = 32) := by rw [hZ]; exact padA_size [] (by simp)
  have Z1 : Hid (Z.all (·.oneCell') = true) := by rw [hZ]; exact padA_one []
  have ZC : Hid ((Z.toList.take 0 ++ (r.map (Value.int .i64) ++ Z.toList.drop (0 + (r.map (Value.int .i64)).length))).toArray = padA r) := by rw [hZ]; exact padA_copy r
  have ZE : Hid (#[.int .i64 0, .int .i64 0, .int .i64 0, .int .i64 0, .int .i64 0, .int .i64 0, .int .i64 0, .int .i64 0, .int .i64 0, .int .i64 0, .int .i64 0, .int .i64 0, .int .i64 0, .int .i64 0, .int .i64 0, .int .i64 0, .int .i64 0, .int .i64 0, .int .i64 0, .int .i64 0, .int .i64 0, .int .i64 0, .int .i64 0, .int .i64 0, .int .i64 0, .int .i64 0, .int .i64 0, .int .i64 0, .int .i64 0, .int .i64 0, .int .i64 0, .int .i64 0] = Z) := by rw [hZ]; exact padA_nil.symm
  clear hZ
  go_enter Tryd.func65, Tryd.ntmps65
  go_wp2_with (refine wpList_store_row rfl 80 (.tmp 3) (.tmp 4) rfl (w.heap.size + 1) _ rfl rfl 80 _ (heap_alloc2_new w _ _) wholeInfo rfl zeros1 ?_)
  rw [setRow2, ZE.out]
  obtain ⟨w2, hw2⟩ : ∃ w2, w2 = (w.alloc (.cells Z 80)).alloc (.cells Z 80) := ⟨_, rfl⟩
  have hg1 : w2.heap[w.heap.size + 1]? = some (.cells Z 80 (0, 0)) := by rw [hw2]; exact heap_alloc2_new w _ _
  have hg0 : w2.heap[w.heap.size]? = some (.cells Z 80 (0, 0)) := by
    rw [hw2, heap_alloc_old _ _ (by simp)]
    exact heap_alloc_new w _
  have hb2 : Below w.heap.size w w2 := by
    rw [hw2]
    exact ((Below.refl _ _).alloc (Nat.le_refl _) _).alloc (by simp) _
  rw [← hw2]
  have G1 := hide hg1
  have G0 := hide hg0
  have B2 := hide hb2
  have RR := hide (R.out.below hb2)
  clear hw2 hg1 hg0 hb2
  obtain ⟨PR, hPR⟩ : ∃ PR, PR = padA r := ⟨_, rfl⟩
  have PS : Hid (PR.size = 32) := by rw [hPR]; exact padA_size r hl
  have P1 : Hid (PR.all (·.oneCell') = true) := by rw [hPR]; exact padA_one r
  have PE := hide hPR
  have ZC2 := ZC.out
  rw [← hPR] at ZC2
  obtain ⟨w3, hrun, hg3, hgr3⟩ := copy_whole G1.out RR.out hl Zsz.out ZC2
  have G3 := hide hg3
  have G30 : Hid (w3.heap[w.heap.size]? = some (.cells Z 80 (0, 0))) := by
    have hlt : w.heap.size < w2.heap.size := (Array.getElem?_eq_some_iff.1 G0.out).1
    exact (hgr3.block w.heap.size hlt (by simp)).trans G0.out
  have B3 := hide (B2.out.grown hgr3 B2.out.size (fun k hk => by cases hk; omega))
  rw [hrun]
  simp only [Result.andThen]
  rw [Oper.upon_value]
  clear hrun hg3 hgr3 hPR ZC2
  go_wp2_with (first | (refine wpList_load_row rfl 80 (.tmp 3) rfl (w.heap.size + 1) rfl 80 PR (0, 0) (.array 32 3) G3.out wholeUnder rfl (by rw [PS.out]; exact wholeInfo) ?_) | (refine wpList_store_row rfl 80 (.tmp 2) (.tmp 8) rfl w.heap.size PR rfl rfl 80 Z G30.out (by rw [PS.out]; exact wholeInfo) (by rw [PS.out, Zsz.out]) P1.out ?_))
  have hg4 : (w3.setRow w.heap.size PR).heap[w.heap.size]? = some (.cells PR 80 (0, 0)) := setRow_heap w3 w.heap.size _ PR 80 _ G30.out
  have hb4 : Below w.heap.size w (w3.setRow w.heap.size PR) := below_setRow B3.out (Nat.le_refl _) _
  (try simp only [Exit.inBlock, Exit.then])
  refine bodyPost_ret (v := .agg PR) (results_cell_row rfl _ _ w.heap.size 80 PR (0, 0) (.array 32 3) rfl hg4 wholeUnder rfl (by rw [PS.out]; exact wholeInfo)) rfl ⟨by rw [PE.out], hb4⟩
set_option maxRecDepth 100000 in
theorem eqItems_ints (d : Nat) (xs ys : List Int) (w : World) : ∀ (is : List Nat), (∀ i ∈ is, i < xs.length ∧ i < ys.length) →
    (Op.eqItems (d + 1) 3 1 (xs.map (Value.int .i64)).toArray (ys.map (Value.int .i64)).toArray is).run Tryd.prog w = .ok (is.all fun i => xs.getD i 0 == ys.getD i 0) w := by
  intro is
  induction is with
  | nil => intro _; simp [Op.eqItems]
  | cons i is ih =>
    intro h
    obtain ⟨h1, h2⟩ := h i (by simp)
    have px : (part 3 (xs.map (Value.int .i64)).toArray (i * 1)).run Tryd.prog w = .ok (.int .i64 (xs.getD i 0)) w := by
      simp [part, isAgg, run_underlying Tryd.underlying3, List.getD_eq_getElem?_getD, List.getElem?_eq_getElem h1]
    have py : (part 3 (ys.map (Value.int .i64)).toArray (i * 1)).run Tryd.prog w = .ok (.int .i64 (ys.getD i 0)) w := by
      simp [part, isAgg, run_underlying Tryd.underlying3, List.getD_eq_getElem?_getD, List.getElem?_eq_getElem h2]
    have pe := run_equalIn_int (P := Tryd.prog) w d 3 .i64 .i64 (xs.getD i 0) (ys.getD i 0) Tryd.underlying3
    simp only [Op.eqItems, Sem.run_bind, px, py, pe, Result.andThen_ok, List.all_cons]
    cases (xs.getD i 0 == ys.getD i 0) with
    | false => simp
    | true =>
      simp only [Bool.not_true, Bool.false_eq_true, if_false, Bool.true_and]
      exact ih fun j hj => h j (by simp [hj])
theorem all_same {xs ys : List Int} (h : xs.length = ys.length) : ((List.range xs.length).all fun i => xs.getD i 0 == ys.getD i 0) = decide (xs = ys) := by
  rw [Bool.eq_iff_iff]
  simp only [List.all_eq_true, List.mem_range, beq_iff_eq, decide_eq_true_eq]
  constructor
  · intro hh
    apply List.ext_getElem h
    intro i h1 h2
    have := hh i h1
    rwa [List.getD_eq_getElem?_getD, List.getD_eq_getElem?_getD, List.getElem?_eq_getElem h1, List.getElem?_eq_getElem h2, Option.getD_some, Option.getD_some] at this
  · rintro rfl i _; rfl
theorem padL_inj {r s : List Int} (h : r.length = s.length) : padL r = padL s ↔ r = s := by
  constructor
  · intro e
    unfold padL at e
    exact (List.append_inj e h).1
  · rintro rfl; rfl
theorem intInfo : ∃ i, Tryd.prog.info? 3 = some i := by
  obtain ⟨i0, hi, _⟩ := info_parts infoInt
  exact ⟨i0, hi⟩
theorem cellsOfInt : Tryd.prog.cellsOf 3 = 1 := by kernel_rfl
set_option maxRecDepth 100000 in
theorem equal_whole (r s : List Int) (hr : r.length ≤ 32) (hs : s.length ≤ 32) (h : r.length = s.length) (w : World) :
    (Op.equalIn 10000 80 (.agg (padA r)) (.agg (padA s))).run Tryd.prog w = .ok (decide (r = s)) w := by
  obtain ⟨i, hi⟩ := intInfo
  rw [run_equalIn_array (P := Tryd.prog) w 9999 _ _ wholeUnder hi, cellsOfInt]
  unfold padA
  rw [eqItems_ints 9998 (padL r) (padL s) w (List.range 32) (fun i hi => by rw [padL_length r hr, padL_length s hs]; exact ⟨List.mem_range.1 hi, List.mem_range.1 hi⟩)]
  have := all_same (xs := padL r) (ys := padL s) (by rw [padL_length r hr, padL_length s hs])
  rw [padL_length r hr] at this
  rw [this]
  congr 1
  rw [Bool.eq_iff_iff]
  simp only [decide_eq_true_eq]
  exact padL_inj h
end Go.Proofs.YtiojipicincgfaaDoor
