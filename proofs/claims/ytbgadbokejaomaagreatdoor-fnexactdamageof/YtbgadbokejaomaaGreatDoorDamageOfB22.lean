/-
  Pieces held against pieces: the program's arrays and its model's lists, call by call. Each contract says what it asks. How many pieces are unlike: the program's function and its model's, call by call. Each contract says what it asks. How many rows are unlike, as the model tells it, call by call. Each contract says what it asks. CheckPieces: the program's function and its model's, at all arguments. The program's table of rests must hold its seven numbers where the program's own function is called.
-/
import Derived.Test.YtbgadbokejaomaaGreatDoorDamageOfB20
import Derived.Test.YtbgadbokejaomaaGreatDoorDamageOfB18
import Derived.Deep.WholeRow
import Derived.ChangeKeysEq
namespace Go.Proofs.YtbgadbokejaomaaGreatDoor
open Go.RowKit

def padL (r : List Int) : List Int := r ++ List.replicate (32 - r.length) 0
def padA (r : List Int) : Array Value := ((padL r).map (Value.int .i64)).toArray
theorem padL_length (r : List Int) (h : r.length ≤ 32) : (padL r).length = 32 := by simp [padL]; omega
theorem padA_size (r : List Int) (h : r.length ≤ 32) : (padA r).size = 32 := by simp [padA, padL_length r h]
theorem padA_one (r : List Int) : (padA r).all (·.oneCell') = true := by
  rw [Array.all_eq_true_iff_forall_mem]
  intro v hv
  simp only [padA, List.mem_toArray, List.mem_map] at hv
  obtain ⟨x, _, rfl⟩ := hv
  rfl
theorem padA_nil : padA [] = #[.int .i64 0, .int .i64 0, .int .i64 0, .int .i64 0, .int .i64 0, .int .i64 0, .int .i64 0, .int .i64 0, .int .i64 0, .int .i64 0, .int .i64 0, .int .i64 0, .int .i64 0, .int .i64 0, .int .i64 0, .int .i64 0, .int .i64 0, .int .i64 0, .int .i64 0, .int .i64 0, .int .i64 0, .int .i64 0, .int .i64 0, .int .i64 0, .int .i64 0, .int .i64 0, .int .i64 0, .int .i64 0, .int .i64 0, .int .i64 0, .int .i64 0, .int .i64 0] := by rfl
theorem zeros1 : (#[.int .i64 0, .int .i64 0, .int .i64 0, .int .i64 0, .int .i64 0, .int .i64 0, .int .i64 0, .int .i64 0, .int .i64 0, .int .i64 0, .int .i64 0, .int .i64 0, .int .i64 0, .int .i64 0, .int .i64 0, .int .i64 0, .int .i64 0, .int .i64 0, .int .i64 0, .int .i64 0, .int .i64 0, .int .i64 0, .int .i64 0, .int .i64 0, .int .i64 0, .int .i64 0, .int .i64 0, .int .i64 0, .int .i64 0, .int .i64 0, .int .i64 0, .int .i64 0] : Array Value).all (·.oneCell') = true := by
  rw [← padA_nil]
  exact padA_one []
theorem wholeInfo : (Tryz.prog.info? 253).map (·.size) = some 32 := by kernel_rfl
theorem wholeUnder : Tryz.prog.underlying 253 = some (.array 32 3) := by kernel_rfl
theorem padA_copy (r : List Int) : ((padA []).toList.take 0 ++ (r.map (Value.int .i64) ++ (padA []).toList.drop (0 + (r.map (Value.int .i64)).length))).toArray = padA r := by
  have e : (padA []).toList = List.replicate 32 (Value.int .i64 0) := by unfold padA padL; simp only [List.nil_append, List.length_nil, Nat.sub_zero, List.map_replicate]
  rw [e, List.take_zero, List.nil_append, List.drop_replicate, List.length_map, Nat.zero_add]
  unfold padA padL
  rw [List.map_append, List.map_replicate]
theorem setRow2 (w : World) (A : Obj) (c c' : Array Value) (t : TypeId) : ((w.alloc A).alloc (.cells c t)).setRow (w.heap.size + 1) c' = (w.alloc A).alloc (.cells c' t) := by
  have := World.setRow_alloc_new (w.alloc A) c c' t
  have e : (w.alloc A).heap.size = w.heap.size + 1 := by simp
  rwa [e] at this

theorem copy_whole {w2 : World} {g : Nat} {Z PR : Array Value} {a : Option Addr} {cap : Nat} {r : List Int} (hg : w2.heap[g]? = some (.cells Z 253 (0, 0))) (hr : Rd w2 (.slice a r.length cap) r) (hl : r.length ≤ 32) (hz : Z.size = 32)
    (hc : (Z.toList.take 0 ++ (r.map (Value.int .i64) ++ Z.toList.drop (0 + (r.map (Value.int .i64)).length))).toArray = PR) :
    ∃ w3, (Builtin.copy_ #[27, 27] 3 #[.slice (some ⟨g, 0, none⟩) 32 32, .slice a r.length cap]).run Tryz.prog w2 = .ok (goInt r.length) w3 ∧ w3.heap[g]? = some (.cells PR 253 (0, 0)) ∧ w2.grownBy w3 (some g) := by
  obtain ⟨a', cap', hv, _, _, h3⟩ := hr
  simp only [Value.slice.injEq, true_and] at hv
  obtain ⟨rfl, rfl⟩ := hv
  rcases h3 with h3 | ⟨b, off, rfl, _, hcell⟩
  · subst h3
    refine ⟨w2, run_copy_none (P := Tryz.prog) w2 _ _ _ 3 _ _ _ _ _ _ Tryz.underlying27 infoSize (by simp), ?_, World.grownBy.refl _ _⟩
    have : PR = Z := by rw [← hc]; simp
    rw [this]
    exact hg
  · have hrun := run_copy_row (P := Tryz.prog) w2 27 27 3 3 g 0 32 32 ⟨b, off, none⟩ r.length cap Z 253 (r.map (Value.int .i64)) Tryz.underlying27 infoSize hg (by rw [List.length_map]; exact (Nat.min_eq_left hl).symm) (fun j y hj => by
      have hjl : j < r.length := by simpa using (List.getElem?_eq_some_iff.1 hj).1
      have hadd : (⟨b, off, none⟩ : Addr).add j = ⟨b, off + j, none⟩ := by unfold Addr.add; split <;> simp_all
      rw [hadd, hcell j hjl]
      rw [List.getElem?_map, List.getElem?_eq_getElem hjl] at hj
      simp only [Option.map_some, Option.some.injEq] at hj
      rw [← hj, List.getD_eq_getElem?_getD, List.getElem?_eq_getElem hjl, Option.getD_some]) (by simp; omega) (ints_oneCell _ _)
    rw [List.append_assoc, hc, List.length_map] at hrun
    exact ⟨_, hrun, setRow_heap w2 g _ PR 253 _ hg, rfl, rfl, rfl, by simp [World.setRow], fun k _ hk => setRow_other w2 g k _ (fun e => hk (by simp [e]))⟩

set_option maxRecDepth 100000 in
set_option maxHeartbeats 1600000 in
theorem wholeOf_calls (v : Value) (r : List Int) (w : World) (h : Rd w v r) (hl : r.length ≤ 32) :
    Calls Tryz.prog 255 #[v] w fun e w' => e = .returned (.agg (padA r)) ∧ Below w.heap.size w w' := by
  have R := hide h
  obtain ⟨a, cap, rfl, _⟩ := h
  obtain ⟨Z, hZ⟩ : ∃ Z, Z = padA [] := ⟨_, rfl⟩
  have Zsz : Hid (Z.size = 32) := by rw [hZ]; exact padA_size [] (by simp)
  have Z1 : Hid (Z.all (·.oneCell') = true) := by rw [hZ]; exact padA_one []
  have ZC : Hid ((Z.toList.take 0 ++ (r.map (Value.int .i64) ++ Z.toList.drop (0 + (r.map (Value.int .i64)).length))).toArray = padA r) := by rw [hZ]; exact padA_copy r
  have ZE : Hid (#[.int .i64 0, .int .i64 0, .int .i64 0, .int .i64 0, .int .i64 0, .int .i64 0, .int .i64 0, .int .i64 0, .int .i64 0, .int .i64 0, .int .i64 0, .int .i64 0, .int .i64 0, .int .i64 0, .int .i64 0, .int .i64 0, .int .i64 0, .int .i64 0, .int .i64 0, .int .i64 0, .int .i64 0, .int .i64 0, .int .i64 0, .int .i64 0, .int .i64 0, .int .i64 0, .int .i64 0, .int .i64 0, .int .i64 0, .int .i64 0, .int .i64 0, .int .i64 0] = Z) := by rw [hZ]; exact padA_nil.symm
  clear hZ
  go_enter Tryz.func255, Tryz.ntmps255
  go_wp2_with (refine wpList_store_row rfl 253 (.tmp 3) (.tmp 4) rfl (w.heap.size + 1) _ rfl rfl 253 _ (heap_alloc2_new w _ _) wholeInfo rfl zeros1 ?_)
  rw [setRow2, ZE.out]
  obtain ⟨w2, hw2⟩ : ∃ w2, w2 = (w.alloc (.cells Z 253)).alloc (.cells Z 253) := ⟨_, rfl⟩
  have hg1 : w2.heap[w.heap.size + 1]? = some (.cells Z 253 (0, 0)) := by rw [hw2]; exact heap_alloc2_new w _ _
  have hg0 : w2.heap[w.heap.size]? = some (.cells Z 253 (0, 0)) := by
    rw [hw2, heap_alloc_old _ _ (by simp)]
    exact heap_alloc_new w _
  have hb2 : Below w.heap.size w w2 := by
    rw [hw2]
    exact ((Below.refl _ _).alloc (Nat.le_refl _) _).alloc (by simp) _
  rw [← hw2]
  have G1 := hide hg1
  have G0 := hide hg0
  have B2 := hide hb2
  have RR := hide (R.out.below hb2)
  clear hw2 hg1 hg0 hb2
  obtain ⟨PR, hPR⟩ : ∃ PR, PR = padA r := ⟨_, rfl⟩
  have PS : Hid (PR.size = 32) := by rw [hPR]; exact padA_size r hl
  have P1 : Hid (PR.all (·.oneCell') = true) := by rw [hPR]; exact padA_one r
  have PE := hide hPR
  have ZC2 := ZC.out
  rw [← hPR] at ZC2
  obtain ⟨w3, hrun, hg3, hgr3⟩ := copy_whole G1.out RR.out hl Zsz.out ZC2
  have G3 := hide hg3
  have G30 : Hid (w3.heap[w.heap.size]? = some (.cells Z 253 (0, 0))) := by
    have hlt : w.heap.size < w2.heap.size := (Array.getElem?_eq_some_iff.1 G0.out).1
    exact (hgr3.block w.heap.size hlt (by simp)).trans G0.out
  have B3 := hide (B2.out.grown hgr3 B2.out.size (fun k hk => by cases hk; omega))
  rw [hrun]
  simp only [Result.andThen]
  rw [Oper.upon_value]
  clear hrun hg3 hgr3 hPR ZC2
  go_wp2_with (first | (refine wpList_load_row rfl 253 (.tmp 3) rfl (w.heap.size + 1) rfl 253 PR (0, 0) (.array 32 3) G3.out wholeUnder rfl (by rw [PS.out]; exact wholeInfo) ?_) | (refine wpList_store_row rfl 253 (.tmp 2) (.tmp 8) rfl w.heap.size PR rfl rfl 253 Z G30.out (by rw [PS.out]; exact wholeInfo) (by rw [PS.out, Zsz.out]) P1.out ?_))
  have hg4 : (w3.setRow w.heap.size PR).heap[w.heap.size]? = some (.cells PR 253 (0, 0)) := setRow_heap w3 w.heap.size _ PR 253 _ G30.out
  have hb4 : Below w.heap.size w (w3.setRow w.heap.size PR) := below_setRow B3.out (Nat.le_refl _) _
  (try simp only [Exit.inBlock, Exit.then])
  refine bodyPost_ret (v := .agg PR) (results_cell_row rfl _ _ w.heap.size 253 PR (0, 0) (.array 32 3) rfl hg4 wholeUnder rfl (by rw [PS.out]; exact wholeInfo)) rfl ⟨by rw [PE.out], hb4⟩
set_option maxRecDepth 100000 in
theorem eqItems_ints (d : Nat) (xs ys : List Int) (w : World) : ∀ (is : List Nat), (∀ i ∈ is, i < xs.length ∧ i < ys.length) →
    (Op.eqItems (d + 1) 3 1 (xs.map (Value.int .i64)).toArray (ys.map (Value.int .i64)).toArray is).run Tryz.prog w = .ok (is.all fun i => xs.getD i 0 == ys.getD i 0) w := by
  intro is
  induction is with
  | nil => intro _; simp [Op.eqItems]
  | cons i is ih =>
    intro h
    obtain ⟨h1, h2⟩ := h i (by simp)
    have px : (part 3 (xs.map (Value.int .i64)).toArray (i * 1)).run Tryz.prog w = .ok (.int .i64 (xs.getD i 0)) w := by
      simp [part, isAgg, run_underlying Tryz.underlying3, List.getD_eq_getElem?_getD, List.getElem?_eq_getElem h1]
    have py : (part 3 (ys.map (Value.int .i64)).toArray (i * 1)).run Tryz.prog w = .ok (.int .i64 (ys.getD i 0)) w := by
      simp [part, isAgg, run_underlying Tryz.underlying3, List.getD_eq_getElem?_getD, List.getElem?_eq_getElem h2]
    have pe := run_equalIn_int (P := Tryz.prog) w d 3 .i64 .i64 (xs.getD i 0) (ys.getD i 0) Tryz.underlying3
    simp only [Op.eqItems, Sem.run_bind, px, py, pe, Result.andThen_ok, List.all_cons]
    cases (xs.getD i 0 == ys.getD i 0) with
    | false => simp
    | true =>
      simp only [Bool.not_true, Bool.false_eq_true, if_false, Bool.true_and]
      exact ih fun j hj => h j (by simp [hj])
theorem all_same {xs ys : List Int} (h : xs.length = ys.length) : ((List.range xs.length).all fun i => xs.getD i 0 == ys.getD i 0) = decide (xs = ys) := by
  rw [Bool.eq_iff_iff]
  simp only [List.all_eq_true, List.mem_range, beq_iff_eq, decide_eq_true_eq]
  constructor
  · intro hh
    apply List.ext_getElem h
    intro i h1 h2
    have := hh i h1
    rwa [List.getD_eq_getElem?_getD, List.getD_eq_getElem?_getD, List.getElem?_eq_getElem h1, List.getElem?_eq_getElem h2, Option.getD_some, Option.getD_some] at this
  · rintro rfl i _; rfl
theorem padL_inj {r s : List Int} (h : r.length = s.length) : padL r = padL s ↔ r = s := by
  constructor
  · intro e
    unfold padL at e
    exact (List.append_inj e h).1
  · rintro rfl; rfl
theorem intInfo : ∃ i, Tryz.prog.info? 3 = some i := by
  obtain ⟨i0, hi, _⟩ := info_parts infoInt
  exact ⟨i0, hi⟩
theorem cellsOfInt : Tryz.prog.cellsOf 3 = 1 := by kernel_rfl
set_option maxRecDepth 100000 in
theorem equal_whole (r s : List Int) (hr : r.length ≤ 32) (hs : s.length ≤ 32) (h : r.length = s.length) (w : World) :
    (Op.equalIn 10000 253 (.agg (padA r)) (.agg (padA s))).run Tryz.prog w = .ok (decide (r = s)) w := by
  obtain ⟨i, hi⟩ := intInfo
  rw [run_equalIn_array (P := Tryz.prog) w 9999 _ _ wholeUnder hi, cellsOfInt]
  unfold padA
  rw [eqItems_ints 9998 (padL r) (padL s) w (List.range 32) (fun i hi => by rw [padL_length r hr, padL_length s hs]; exact ⟨List.mem_range.1 hi, List.mem_range.1 hi⟩)]
  have := all_same (xs := padL r) (ys := padL s) (by rw [padL_length r hr, padL_length s hs])
  rw [padL_length r hr] at this
  rw [this]
  congr 1
  rw [Bool.eq_iff_iff]
  simp only [decide_eq_true_eq]
  exact padL_inj h
end Go.Proofs.YtbgadbokejaomaaGreatDoor

namespace Go.Proofs.YtbgadbokejaomaaGreatDoor
open Go.RowKit

/-- How many of the first k rows are unlike. -/
def unlTo (a b : List (List Int)) : Nat → Nat
  | 0 => 0
  | k + 1 => unlTo a b k + if a.getD k [] = b.getD k [] then 0 else 1
theorem unlTo_le (a b : List (List Int)) (k : Nat) : unlTo a b k ≤ k := by
  induction k with
  | zero => exact Nat.le_refl _
  | succ k ih => rw [unlTo]; split <;> omega
theorem RdM.at {w : World} {a : Option Addr} {n cap : Nat} {m : List (List Int)} (h : RdM w (.slice a n cap) m) (i : Nat) (hi : i < m.length) :
    ∃ b off u, a = some ⟨b, off, none⟩ ∧ b < w.heap.size ∧ w.cell? ⟨b, off + i, none⟩ = some u ∧ Rd w u (m.getD i []) := by
  obtain ⟨a', cap', hv, _, _, h3⟩ := h
  simp only [Value.slice.injEq] at hv
  obtain ⟨rfl, rfl, rfl⟩ := hv
  rcases h3 with h3 | ⟨b, off, rfl, hlt, hc⟩
  · subst h3; simp at hi
  · obtain ⟨u, hu, hr⟩ := hc i hi
    exact ⟨b, off, u, rfl, hlt, hu, hr⟩
theorem below_drewC {B : Nat} {w w' : World} (h : Below B w w') : Below B w w'.drew := ⟨h.os, h.tape, h.output, h.size, h.block⟩

set_option maxRecDepth 100000 in
set_option maxHeartbeats 3200000 in
theorem countUnlike_calls (av bv : Value) (a b : List (List Int)) (n : Nat) (w : World) (ha : RdM w av a) (hb : RdM w bv b) (hal : a.length = n) (hbl : b.length = n) (hn : n ≤ 4096)
    (hr : ∀ i, i < n → (a.getD i []).length = (b.getD i []).length ∧ (a.getD i []).length ≤ 32) :
    Calls Tryz.prog 228 #[av, bv] w fun e w' => e = .returned (.int .i64 ((unlTo a b n : Nat) : Int)) ∧ Below w.heap.size w w' := by
  have RA := hide ha
  have RB := hide hb
  have HR := hide hr
  have AL := hide hal
  have BL := hide hbl
  obtain ⟨aa, acap, hav, _⟩ := ha
  obtain ⟨ba, bcap, hbv, _⟩ := hb
  rw [hal] at hav
  rw [hbl] at hbv
  subst hav hbv
  clear hr hal hbl
  go_enter Tryz.func228, Tryz.ntmps228
  go_wp2
  go_loopw [5, 9] (fun vn vi wr => ∃ k c : Nat, k ≤ n ∧ vi = .int .i64 k ∧ vn = .int .i64 c ∧ c = unlTo a b k ∧ Below w.heap.size w wr) (fun _ vi _ => n - (intOf vi).toNat)
  case atStart => exact ⟨0, 0, Nat.zero_le _, rfl, rfl, rfl, Below.refl _ _⟩
  case round =>
    obtain ⟨k, c, hk, rfl, rfl, hc, hb⟩ := hrel
    have C := hide hc
    have B := hide hb
    have hcn : c ≤ 4096 := by rw [hc]; have := unlTo_le a b k; omega
    clear hc hb
    by_cases hlt : k < n
    · have hlt' : (k : Int) < (n : Int) := by omega
      obtain ⟨ab, aoff, au, rfl, hab, hac, hau⟩ := RA.out.at k (by rw [AL.out]; exact hlt)
      obtain ⟨bb, boff, bu, rfl, hbb, hbc, hbu⟩ := RB.out.at k (by rw [BL.out]; exact hlt)
      have hac1 : wr.cell? ⟨ab, aoff + k, none⟩ = some au := (B.out.cell (p := ⟨ab, aoff + k, none⟩) hab).trans hac
      have hbc1 : wr.cell? ⟨bb, boff + k, none⟩ = some bu := (B.out.cell (p := ⟨bb, boff + k, none⟩) hbb).trans hbc
      obtain ⟨r, hrr⟩ : ∃ r, r = a.getD k [] := ⟨_, rfl⟩
      obtain ⟨s, hss⟩ : ∃ s, s = b.getD k [] := ⟨_, rfl⟩
      obtain ⟨hl1, hl2⟩ := HR.out k hlt
      rw [← hrr] at hau hl1 hl2
      rw [← hss] at hbu hl1
      obtain ⟨A, hA⟩ : ∃ A, A = padA r := ⟨_, rfl⟩
      obtain ⟨S, hS⟩ : ∃ S, S = padA s := ⟨_, rfl⟩
      obtain ⟨t, ht⟩ : ∃ t, t = decide (r = s) := ⟨_, rfl⟩
      have heq : ∀ w', Sem.run Tryz.prog (Op.equalIn 10000 253 (.agg A) (.agg S)) w' = .ok t w' := fun w' => by
        rw [hA, hS, ht]
        exact equal_whole r s hl2 (by omega) hl1 w'
      have HA : Hid (∀ W, Below w.heap.size w W → Calls Tryz.prog 255 #[au] W fun e w' => e = .returned (.agg A) ∧ Below W.heap.size W w') := fun W hW => by
        rw [hA]
        exact wholeOf_calls au r W ((hau.below hW)) hl2
      have HB : Hid (∀ W, Below w.heap.size w W → Calls Tryz.prog 255 #[bu] W fun e w' => e = .returned (.agg S) ∧ Below W.heap.size W w') := fun W hW => by
        rw [hS]
        exact wholeOf_calls bu s W ((hbu.below hW)) (by omega)
      have nx : unlTo a b (k + 1) = c + if t = true then 0 else 1 := by
        rw [unlTo, ← C.out, ht, ← hrr, ← hss]
        simp only [decide_eq_true_eq]
      have NX := hide nx
      have i0 : (0 : Int) ≤ (k : Int) := by omega
      have BD := hide (below_drewC B.out)
      obtain ⟨W0, rfl⟩ : ∃ W0, W0 = wr := ⟨_, rfl⟩
      clear hA hS ht nx hac hbc hau hbu hrr hss
      go_wp2
      go_region_with (first
        | (go_at_call 255; refine (HA.out _ BD.out).mono ?_; rintro e w1 ⟨rfl, hb1⟩; have hB1 : Below w.heap.size w w1 := BD.out.trans (hb1.mono BD.out.size); have hbc1' : w1.cell? ⟨bb, boff + k, none⟩ = some bu := (hb1.cell (p := ⟨bb, boff + k, none⟩) (Nat.lt_of_lt_of_le hbb BD.out.size)).trans hbc1)
        | (go_at_call 255; refine (HB.out _ hB1).mono ?_; rintro e w2 ⟨rfl, hb2⟩; have hB2 : Below w.heap.size w w2 := hB1.trans (hb2.mono hB1.size)))
      all_goals
        have BB := hide hB2
        clear hb1 hB1 hbc1' hb2 hB2 heq
        cases t with
        | true =>
          go_wp2
          go_roundw
          case rel => exact ⟨k + 1, c, by omega, by go_num, rfl, by rw [NX.out]; rfl, BB.out⟩
          case measure => simp [intOf]; omega
        | false =>
          go_wp2
          go_roundw
          case rel => exact ⟨k + 1, c + 1, by omega, by go_num, by go_num, by rw [NX.out]; rfl, BB.out⟩
          case measure => simp [intOf]; omega
    · obtain rfl : k = n := by omega
      go_wp2
      go_ret
      rw [C.out]
      exact ⟨rfl, B.out⟩
end Go.Proofs.YtbgadbokejaomaaGreatDoor

namespace Go.Proofs.YtbgadbokejaomaaGreatDoor
open Go.RowKit

end Go.Proofs.YtbgadbokejaomaaGreatDoor

namespace Go.Proofs.YtbgadbokejaomaaGreatDoor
open Go.RowKit

def chkOk (d q : Int) (m : List (List Int)) : Bool := codeOk d q && (decide ((m.length : Int) = d + q) && piecesOk m)
theorem chkOk_facts {d q : Int} {m : List (List Int)} (h : chkOk d q m = true) : codeOk d q = true ∧ (m.length : Int) = d + q ∧ piecesOk m = true := by
  simp only [chkOk, Bool.and_eq_true, decide_eq_true_eq] at h
  exact h

set_option maxRecDepth 100000 in
set_option maxHeartbeats 800000 in
theorem areCodePieces_calls (d q : Int) (v : Value) (m : List (List Int)) (w : World) (h : RdM w v m) :
    Calls Tryz.prog 227 #[.int .i64 d, .int .i64 q, v] w fun e w' => e = .returned (.bool (chkOk d q m)) ∧ Below w.heap.size w w' := by
  have R := hide h
  obtain ⟨a, cap, rfl, _⟩ := h
  cases hc : codeOk d q with
  | false =>
    have e : chkOk d q m = false := by simp [chkOk, hc]
    rw [e]
    have C := hide hc
    clear hc e
    go_enter Tryz.func227, Tryz.ntmps227
    go_wp2_with fail
    refine (isCode_calls d q _).mono ?_
    rw [C.out]
    rintro e w' ⟨rfl, rfl⟩
    go_wp2
    go_ret
    exact ⟨rfl, Below.refl _ _⟩
  | true =>
    obtain ⟨f1, f2, f3, f4⟩ := codeOk_facts hc
    have C := hide hc
    by_cases hl : (m.length : Int) = d + q
    · have t1 : ((m.length : Int) == d + q) = true := by simp [hl]
      obtain ⟨p, hp⟩ : ∃ p, p = piecesOk m := ⟨_, rfl⟩
      have e : chkOk d q m = p := by rw [chkOk, hc, decide_eq_true hl, hp]; rfl
      rw [e]
      have PO := hide hp
      clear hc e hl hp
      go_enter Tryz.func227, Tryz.ntmps227
      go_wp2_with fail
      refine (isCode_calls d q _).mono ?_
      rw [C.out]
      rintro e w' ⟨rfl, rfl⟩
      go_wp2_with fail
      refine (arePieces_calls _ m _ R.out).mono ?_
      rw [← PO.out]
      rintro e w1 ⟨rfl, hb⟩
      have B := hide hb
      clear hb
      go_wp2
      go_ret
      exact ⟨rfl, B.out⟩
    · have t1 : ((m.length : Int) == d + q) = false := by simp [hl]
      have e : chkOk d q m = false := by rw [chkOk, decide_eq_false hl]; simp
      rw [e]
      clear hc e hl
      go_enter Tryz.func227, Tryz.ntmps227
      go_wp2_with fail
      refine (isCode_calls d q _).mono ?_
      rw [C.out]
      rintro e w' ⟨rfl, rfl⟩
      go_wp2
      go_ret
      exact ⟨rfl, Below.refl _ _⟩
theorem rdM_take {w : World} {a : Option Addr} {n cap : Nat} {m : List (List Int)} (h : RdM w (.slice a n cap) m) (i : Nat) (hi : i ≤ m.length) : RdM w (.slice a i cap) (m.take i) := by
  obtain ⟨a', cap', hv, h1, h2, h3⟩ := h
  simp only [Value.slice.injEq] at hv
  obtain ⟨rfl, rfl, rfl⟩ := hv
  have hl : (m.take i).length = i := by simp; omega
  refine ⟨a, cap, by rw [hl], by rw [hl]; omega, h2, ?_⟩
  rcases h3 with h3 | ⟨b, off, rfl, hlt, hc⟩
  · subst h3; exact .inl (by simp)
  · refine .inr ⟨b, off, rfl, hlt, fun j hj => ?_⟩
    rw [hl] at hj
    obtain ⟨u, hu, hr⟩ := hc j (by omega)
    refine ⟨u, hu, ?_⟩
    have e : (m.take i).getD j [] = m.getD j [] := by simp [List.getD_eq_getElem?_getD, hj]
    rw [e]
    exact hr
theorem pieces_take {m : List (List Int)} (h : piecesOk m = true) (i : Nat) (h0 : 0 < i) (hi : i ≤ m.length) : piecesOk (m.take i) = true := by
  refine piecesOk_yes fun j hj => ?_
  have hl : (m.take i).length = i := by simp; omega
  rw [hl] at hj
  have e : (m.take i).getD j [] = m.getD j [] := by simp [List.getD_eq_getElem?_getD, hj]
  have e0 : (m.take i).getD 0 [] = m.getD 0 [] := by simp [List.getD_eq_getElem?_getD, h0]
  have := piecesOk_at h j (by omega)
  rw [pieceAt, e, e0, decide_eq_true ⟨this.1, this.2.1⟩, this.2.2]; rfl
/-- All pieces as a code has them whose data are the first ones. -/
def encT (d q : Nat) (m : List (List Int)) : List (List Int) := mulM (codeM d q) (m.take d)
def chkR (d q : Int) (m : List (List Int)) : Bool × Bool := if chkOk d q m = true then (decide (((unlTo m (encT d.toNat q.toNat m) m.length : Nat) : Int) = 0), true) else (false, false)
theorem encT_rows {D Q : Nat} {m : List (List Int)} (hp : piecesOk m = true) (h1 : 1 ≤ D) (hl : m.length = D + Q) : (encT D Q m).length = m.length ∧ ∀ i, i < m.length → (m.getD i []).length = ((encT D Q m).getD i []).length ∧ (m.getD i []).length ≤ 32 := by
  have h0 : 0 < D := h1
  have e0 : (m.take D).getD 0 [] = m.getD 0 [] := by simp [List.getD_eq_getElem?_getD, h0]
  refine ⟨by rw [encT, mulM_length, codeM_length, hl], fun i hi => ?_⟩
  have := piecesOk_at hp i hi
  unfold encT
  rw [mulM_get _ _ _ (by rw [codeM_length]; omega), Gf.ci_length, mulRow_length, e0]
  exact ⟨this.1, this.2.1⟩

set_option maxRecDepth 100000 in
set_option maxHeartbeats 1600000 in
theorem checkPieces_calls (d q : Int) (v : Value) (m : List (List Int)) (w : World) (hT : Gf.Tab w) (h : RdM w v m) :
    Calls Tryz.prog 194 #[.int .i64 d, .int .i64 q, v] w fun e w' => e = .returned (.tuple #[.bool (chkR d q m).1, .bool (chkR d q m).2]) ∧ Below w.heap.size w w' := by
  have R := hide h
  have T := hide hT
  obtain ⟨a, cap, rfl, hcap, _⟩ := h
  clear hT
  cases hc : chkOk d q m with
  | false =>
    have e : chkR d q m = (false, false) := by simp [chkR, hc]
    rw [e]
    have C := hide hc
    clear hc e
    go_enter Tryz.func194, Tryz.ntmps194
    go_wp2_with fail
    refine (areCodePieces_calls d q _ m _ R.out).mono ?_
    rw [C.out]
    rintro e w1 ⟨rfl, hb⟩
    have B := hide hb
    clear hb
    go_wp2
    go_ret2
    exact ⟨rfl, B.out⟩
  | true =>
    obtain ⟨c1, c2, c3⟩ := chkOk_facts hc
    obtain ⟨f1, f2, f3, f4⟩ := codeOk_facts c1
    have C := hide hc
    obtain ⟨D, rfl⟩ := Int.eq_ofNat_of_zero_le (show 0 ≤ d by omega)
    obtain ⟨Q, rfl⟩ := Int.eq_ofNat_of_zero_le (show 0 ≤ q by omega)
    have hl : m.length = D + Q := by omega
    obtain ⟨z, hz⟩ : ∃ z, z = unlTo m (encT D Q m) m.length := ⟨_, rfl⟩
    have e : chkR (D : Int) (Q : Int) m = (decide (((z : Nat) : Int) = 0), true) := by simp only [chkR, if_pos hc, Int.toNat_natCast, hz]
    rw [e]
    have er := encT_rows c3 (by omega) hl
    have ER := hide er
    have PT := hide (pieces_take c3 D (by omega) (by omega))
    have TL : Hid ((m.take D).length = D) := by show (m.take D).length = D; simp; omega
    have HZ := hide hz
    have HL := hide hl
    have i0 : (0 : Int) ≤ (D : Int) := by omega
    have i1 : (D : Int) ≤ (cap : Int) := by omega
    clear hc c1 c2 c3 e er hz hl
    go_enter Tryz.func194, Tryz.ntmps194
    go_wp2_with fail
    refine (areCodePieces_calls _ _ _ m _ R.out).mono ?_
    rw [C.out]
    rintro e w1 ⟨rfl, hb⟩
    have B := hide hb
    clear hb
    have R1 := hide (R.out.below B.out)
    have RT : Hid (RdM w1 (.slice a D cap) (m.take D)) := rdM_take R1.out D (by have := HL.out; omega)
    have EN : Hid (Calls Tryz.prog 178 #[.slice a D cap, .int .i64 (Q : Nat)] w1 fun e w' => ∃ v', e = .returned v' ∧ Mat w' w1.heap.size w'.heap.size v' (encT D Q m) ∧ Below w1.heap.size w1 w') := by
      have := encode_calls _ (m.take D) Q w1 (Gf.Tab.below T.out B.out) RT.out PT.out (by rw [TL.out]; omega) (by rw [TL.out]; omega) (by omega) (by omega)
      rw [TL.out] at this
      exact this
    go_wp2_with fail
    refine EN.out.mono ?_
    rintro e w2 ⟨v2, rfl, hm2, hb2⟩
    have M2 := hide hm2.rd
    have B2 := hide (B.out.trans (hb2.mono B.out.size))
    have R2 := hide (R1.out.below hb2)
    clear hm2 hb2
    go_wp2_with fail
    refine (countUnlike_calls _ _ m (encT D Q m) m.length _ R2.out M2.out rfl ER.out.1 (by rw [HL.out]; omega) ER.out.2).mono ?_
    rw [← HZ.out]
    rintro e w3 ⟨rfl, hb3⟩
    have B3 := hide (B2.out.trans (hb3.mono B2.out.size))
    clear hb3
    go_wp2
    go_ret2
    refine ⟨?_, B3.out⟩
    have eb : (((z : Nat) : Int) == 0) = decide (z = 0) := by rw [Bool.eq_iff_iff]; simp only [beq_iff_eq, decide_eq_true_eq]; omega
    simp [eb]

end Go.Proofs.YtbgadbokejaomaaGreatDoor
