/-
  A text in pieces: the model's SplitBody and the program's, call by call. No condition but a bound on the text's length. The laws' own small functions over rows of integers (how great, copied, compared, marked, looked whether the marks are held), call by call. Each contract says what it asks. Elements of the field in lists: which integers are elements, which lists hold elements alone, which integers lie between two: the program's functions and its model's, call by call; memory stays as it was. No condition. Which rows of rows are matrices: the program's function and its model's, call by call: both answer 'goodM'. No condition.
-/
import Derived.Test.YtdoldboefceliaaGreatDoorReadStripeB5
import Derived.Test.YtdoldboefceliaaGreatDoorReadStripeB11
import Derived.Test.YtdoldboefceliaaGreatDoorReadStripeB6
import Derived.Deep.RegionWith
namespace Go.Proofs.YtdoldboefceliaaGreatDoor
open Go.RowKit
set_option linter.unusedVariables false

/-- The k-th piece of 16 bytes. -/
def pc (S : ByteArray) (k : Nat) : ByteArray := ofN (((bs S).drop (16 * k)).take 16)
def pcs (S : ByteArray) (k : Nat) : List ByteArray := (List.range k).map (pc S)
theorem pcs_succ (S : ByteArray) (k : Nat) : pcs S (k + 1) = pcs S k ++ [pc S k] := by simp [pcs, List.range_succ]
theorem pcs_length (S : ByteArray) (k : Nat) : (pcs S k).length = k := by simp [pcs]
theorem pc_size (S : ByteArray) (k : Nat) : (pc S k).size = min 16 (S.size - 16 * k) := by
  unfold pc
  rw [ofN_size, List.length_take, List.length_drop, bs_length]
theorem pcs_small (S : ByteArray) (k : Nat) : ∀ s ∈ pcs S k, s.size ≤ maxLen := by
  intro s hs
  simp only [pcs, List.mem_map, List.mem_range] at hs
  obtain ⟨i, _, rfl⟩ := hs
  rw [pc_size]
  unfold maxLen
  omega
/-- How many pieces there are. -/
def many (S : ByteArray) : Nat := (S.size + 15) / 16
def splR (S : ByteArray) : List ByteArray × Bool := if 1 ≤ S.size ∧ S.size ≤ 160 then (pcs S (many S), true) else ([], false)
theorem ext_take (l : List Nat) (k : Nat) : (ofN l).extract 0 k = ofN (l.take k) := by
  have e := ByteArray.extract_mk (l.map UInt8.ofNat) 0 k
  unfold ofN
  have : (ByteArray.mk (l.map UInt8.ofNat).toArray).extract 0 k = ByteArray.mk ((l.map UInt8.ofNat).take k).toArray := by simpa using e
  rw [this, List.map_take]
theorem ext_drop (l : List Nat) (k n : Nat) (h : n = l.length) : (ofN l).extract k n = ofN (l.drop k) := by
  subst h
  have e := ByteArray.extract_mk (l.map UInt8.ofNat) k l.length
  unfold ofN
  have e2 : ((l.map UInt8.ofNat).drop k).take (l.length - k) = (l.map UInt8.ofNat).drop k := List.take_of_length_le (by rw [List.length_drop, List.length_map]; exact Nat.le_refl _)
  rw [e2] at e
  rw [List.map_drop]
  exact e
theorem ownT_nil (w : World) (base : Nat) : OwnT w base (.slice none 0 0) [] := World.ownsRow_nil _ _ _ _
theorem own_ge {w : World} {base : Nat} {v : Value} {xs : List ByteArray} (h : OwnT w base v xs) : ∀ j, v.ownBlock = some j → base ≤ j := by
  intro j hj
  rcases h.2 with ⟨rfl, _⟩ | ⟨g, cap, cur, rfl, hb, _⟩
  · simp [Value.ownBlock] at hj
  · simp [Value.ownBlock] at hj
    omega
theorem ownsRow_less {w : World} {base base' n : Nat} {v : Value} {xs : List Value} (h : w.ownsRow base 9 1 v n xs) (hb : base' ≤ base) : w.ownsRow base' 9 1 v n xs := by
  refine ⟨h.1, ?_⟩
  rcases h.2 with hn | ⟨g, cap, cur, rfl, hb', rest⟩
  · exact .inl hn
  · exact .inr ⟨g, cap, cur, rfl, Nat.le_trans hb hb', rest⟩
theorem own_slice {w : World} {base : Nat} {v : Value} {xs : List ByteArray} (h : OwnT w base v xs) : ∃ a cap, v = .slice a xs.length cap := by
  rcases h.2 with ⟨rfl, h0⟩ | ⟨g, cap, cur, rfl, hb, _⟩
  · exact ⟨none, 0, by rw [h0]⟩
  · exact ⟨_, cap, rfl⟩
theorem OwnT.wide {w : World} {base n : Nat} {v : Value} {xs : List ByteArray} (h : OwnT w base v xs) (hn : n = xs.length) : w.ownsRow base 9 1 v n (xs.map Value.string) := by rw [hn]; exact h

theorem BRow.grown {w w' : World} {g m : Nat} {l : List Nat} {r : Option Nat} (h : BRow w g m l) (hg : w.grownBy w' r) (hne : ∀ j, r = some j → g < j) : BRow w' g m l := by
  have hl := h.lt
  obtain ⟨C, h1, h2⟩ := h
  refine ⟨C, ?_, h2⟩
  rw [hg.block g hl (fun e => by have := hne g e.symm; omega)]
  exact h1

set_option maxRecDepth 100000 in
set_option maxHeartbeats 1600000 in
theorem splitBody_calls (S : ByteArray) (w : World) (hS : S.size ≤ maxLen) :
    Calls Tryz.prog 82 #[.string S] w fun e w' => ∃ v, e = .returned (.tuple #[v, .bool (splR S).2]) ∧ OwnT w' w.heap.size v (splR S).1 ∧ Below w.heap.size w w' := by
  unfold maxLen at hS
  by_cases hg1 : 1 ≤ S.size
  case neg =>
    have er : splR S = ([], false) := if_neg (fun h => hg1 h.1)
    rw [er]
    clear er
    have h' : (S.size : Int) < 1 := by omega
    go_enter Tryz.func82, Tryz.ntmps82
    go_wp2
    go_ret2
    exact ⟨_, rfl, ownT_nil _ _, Below.refl _ _⟩
  by_cases hg2 : S.size ≤ 160
  case neg =>
    have er : splR S = ([], false) := if_neg (fun h => hg2 h.2)
    rw [er]
    clear er
    have h' : ¬ (S.size : Int) < 1 := by omega
    have h2' : (160 : Int) < (S.size : Int) := by omega
    go_enter Tryz.func82, Tryz.ntmps82
    go_wp2
    go_ret2
    exact ⟨_, rfl, ownT_nil _ _, Below.refl _ _⟩
  have er : splR S = (pcs S (many S), true) := if_pos ⟨hg1, hg2⟩
  rw [er]
  clear er
  have h1' : ¬ (S.size : Int) < 1 := by omega
  have h2' : ¬ (160 : Int) < (S.size : Int) := by omega
  have hlen := bs_length S
  have HLen := hide hlen
  clear hlen
  have hcv := conv_bytes S w
  have hr := bytesW_row S w
  have hb1 := bytesW_below S w
  have hc28 := bytesC_ge S w
  generalize bytesC S w = c at hcv hr hc28
  generalize bytesW S w = W at hcv hr hb1
  have hlt : w.heap.size < W.heap.size := hr.lt
  have RR := hide hr
  have S1 := hide hb1
  have O0 : Hid (OwnT (W.alloc (.cells #[] 9)) (w.heap.size + 1) (.slice (some ⟨W.heap.size, 0, none⟩) 0 0) []) := by
    show World.ownsRow _ _ _ _ _ _ _
    have := World.ownsRow_lit (base := w.heap.size + 1) (e := 9) (size := 1) W #[] 0 hlt (by unfold maxLen; omega) (by simp)
    simpa using this
  clear hr hb1
  go_enter Tryz.func82, Tryz.ntmps82
  go_wp2
  go_loopw [5, 6] (fun vo vf wr => ∃ k : Nat, vf = .int .i64 ((16 * k : Nat) : Int) ∧ 16 * k < S.size + 16 ∧ OwnT wr (w.heap.size + 1) vo (pcs S k) ∧ BRow wr w.heap.size c (bs S) ∧ Below w.heap.size w wr) (fun _ vf _ => (S.size + 16) - (intOf vf).toNat)
  case atStart => exact ⟨0, rfl, by omega, O0.out, RR.out.kept ((Below.refl _ _).alloc (Nat.le_refl _) _), S1.out.alloc (Nat.le_of_lt hlt) _⟩
  case round =>
    obtain ⟨k, rfl, hk, hown, hrow, hb⟩ := hrel
    have HB := hide hb
    obtain ⟨a0, cap0, rfl⟩ := own_slice hown
    have hpl := pcs_length S k
    have hge := own_ge hown
    have how : wr.ownsRow (w.heap.size + 1) 9 1 (.slice a0 (pcs S k).length cap0) (pcs S k).length ((pcs S k).map Value.string) := hown
    rw [hpl] at hge how
    rw [hpl]
    have O := hide how
    have GE := hide hge
    have HR := hide hrow
    have hwl : w.heap.size < wr.heap.size := hrow.lt
    clear hown hb hge hpl how hrow
    by_cases hlt2 : 16 * k < S.size
    · obtain ⟨f, hf⟩ : ∃ f, f = 16 * k := ⟨_, rfl⟩
      have HF := hide hf
      have hk10 : k ≤ 10 := by omega
      rw [← hf] at hlt2 hk ⊢
      clear hf
      have t1 : (f : Int) < (S.size : Int) := by omega
      by_cases hfull : S.size < f + 16
      · obtain ⟨n, hn⟩ : ∃ n, n = S.size - f := ⟨_, rfl⟩
        have hsub : Hid ((S.size : Int) - (f : Int) = (n : Int)) := by show _ = _; omega
        have hn16 : n < 16 := by omega
        have hfn : f + n = S.size := by omega
        have HFN := hide hfn
        have hfn' : f + n ≤ S.size := by omega
        have hcc : f + n ≤ c := by omega
        have t2 : (S.size : Int) - (f : Int) < 16 := by omega
        have t3 : ¬ (16 : Int) < (S.size : Int) - (f : Int) := by omega
        have t4 : ¬ (16 : Int) ≤ (S.size : Int) - (f : Int) := by omega
        clear hn hfn
        go_wp2_with fail
        rw [hsub.out]
        refine (cutBytes_any w.heap.size S.size c f n _ (by omega) (by omega)).mono ?_
        rintro e' w1 ⟨rfl, rfl⟩
        have hct := HR.out.cut (f := f) (n := n) (bs_lt S) (by rw [HLen.out]; omega)
        have hpc : Hid (ofN (((bs S).drop f).take n) = pc S k) := by
          show _ = _
          unfold pc
          rw [HF.out]
          rw [List.take_of_length_le (by rw [List.length_drop, HLen.out]; have := HF.out; have := HFN.out; omega), List.take_of_length_le (by rw [List.length_drop, HLen.out]; have := HF.out; have := HFN.out; omega)]
        generalize ofN (((bs S).drop f).take n) = T at hct hpc
        have O1 := hide (O.out.alloc (.cells #[.string T] 9))
        have hb2 : w.heap.size + 1 ≤ (wr.alloc (.cells #[.string T] 9)).heap.size := by simp; omega
        have hc1 : (wr.alloc (.cells #[.string T] 9)).cell? ⟨wr.heap.size, 0, none⟩ = some (.string T) := by rw [cell_of_row _ wr.heap.size 0 _ _ _ (heap_alloc_new wr _)]; rfl
        go_wp2_with (at_builtin; refine wpList_append_text1 rfl _ _ rfl (w.heap.size + 1) _ k (pcs S k) T rfl O1.out wr.heap.size rfl hc1 (by omega) hb2 ?_)
        intro v' w2 o2 g2
        have O2 := hide o2
        have B2 := hide (((HB.out.alloc HB.out.size (.cells #[.string T] 9))).grown g2 (by have := HB.out.size; simp; omega) (fun j hj => by have := GE.out j hj; omega))
        have R2 := hide ((HR.out.kept ((Below.refl _ _).alloc (Nat.le_refl _) (.cells #[.string T] 9))).grown g2 (fun j hj => by have := GE.out j hj; omega))
        clear o2 g2 hc1 hb2 O1 hct
        go_wp2
        go_roundw
        case rel =>
          refine ⟨k + 1, int_eq (by have := HF.out; omega), by have := HF.out; omega, ?_, R2.out, B2.out⟩
          rw [pcs_succ, ← hpc.out]
          exact O2.out
        case measure => simp [intOf]; omega
      · have hcc : f + 16 ≤ c := by omega
        have t2 : ¬ (S.size : Int) - (f : Int) < 16 := by omega
        have t4 : (16 : Int) ≤ (S.size : Int) - (f : Int) := by omega
        go_wp2_with fail
        refine (cutBytes_any w.heap.size S.size c f 16 _ (by omega) (by omega)).mono ?_
        rintro e' w1 ⟨rfl, rfl⟩
        have hct := HR.out.cut (f := f) (n := 16) (bs_lt S) (by rw [HLen.out]; omega)
        have hpc : Hid (ofN (((bs S).drop f).take 16) = pc S k) := by
          show _ = _
          unfold pc
          rw [HF.out]
        generalize ofN (((bs S).drop f).take 16) = T at hct hpc
        have O1 := hide (O.out.alloc (.cells #[.string T] 9))
        have hb2 : w.heap.size + 1 ≤ (wr.alloc (.cells #[.string T] 9)).heap.size := by simp; omega
        have hc1 : (wr.alloc (.cells #[.string T] 9)).cell? ⟨wr.heap.size, 0, none⟩ = some (.string T) := by rw [cell_of_row _ wr.heap.size 0 _ _ _ (heap_alloc_new wr _)]; rfl
        go_wp2_with (at_builtin; refine wpList_append_text1 rfl _ _ rfl (w.heap.size + 1) _ k (pcs S k) T rfl O1.out wr.heap.size rfl hc1 (by omega) hb2 ?_)
        intro v' w2 o2 g2
        have O2 := hide o2
        have B2 := hide (((HB.out.alloc HB.out.size (.cells #[.string T] 9))).grown g2 (by have := HB.out.size; simp; omega) (fun j hj => by have := GE.out j hj; omega))
        have R2 := hide ((HR.out.kept ((Below.refl _ _).alloc (Nat.le_refl _) (.cells #[.string T] 9))).grown g2 (fun j hj => by have := GE.out j hj; omega))
        clear o2 g2 hc1 hb2 O1 hct
        go_wp2
        go_roundw
        case rel =>
          refine ⟨k + 1, int_eq (by have := HF.out; omega), by have := HF.out; omega, ?_, R2.out, B2.out⟩
          rw [pcs_succ, ← hpc.out]
          exact O2.out
        case measure => simp [intOf]; omega
    · obtain ⟨f, hf⟩ : ∃ f, f = 16 * k := ⟨_, rfl⟩
      have HF := hide hf
      have hmany : Hid (many S = k) := by
        show (S.size + 15) / 16 = k
        omega
      rw [← hf] at hlt2 hk ⊢
      clear hf
      have t1 : ¬ (f : Int) < (S.size : Int) := by omega
      go_wp2
      go_ret2
      refine ⟨_, rfl, ?_, HB.out⟩
      rw [hmany.out]
      have := O.out
      show World.ownsRow _ _ _ _ _ (pcs S k).length _
      rw [pcs_length]
      exact ownsRow_less this (by omega)
theorem splR_facts (S : ByteArray) : (splR S).1.length ≤ 10 ∧ ∀ s ∈ (splR S).1, s.size ≤ maxLen := by
  unfold splR
  split
  · refine ⟨?_, pcs_small S _⟩
    show (pcs S (many S)).length ≤ 10
    rw [pcs_length]
    unfold many
    omega
  · exact ⟨by simp, by simp⟩
end Go.Proofs.YtdoldboefceliaaGreatDoor

namespace Go.Proofs.YtdoldboefceliaaGreatDoor
open Go.RowKit

def tot (m : List (List Int)) : Nat := (m.map List.length).sum
theorem tot_nil : tot [] = 0 := rfl
theorem tot_take_succ (m : List (List Int)) (k : Nat) (h : k < m.length) : tot (m.take (k + 1)) = tot (m.take k) + (m.getD k []).length := by
  unfold tot
  rw [List.take_succ_eq_append_getElem h, List.map_append, List.sum_append]
  simp [List.getD_eq_getElem?_getD, List.getElem?_eq_getElem h]
theorem tot_app (a b : List (List Int)) : tot (a ++ b) = tot a + tot b := by simp [tot]
theorem tot_take_le (m : List (List Int)) (k : Nat) : tot (m.take k) ≤ tot m := by
  have := congrArg tot (List.take_append_drop k m)
  rw [tot_app] at this
  omega
theorem tot_row_le (m : List (List Int)) (k : Nat) (h : k < m.length) : tot (m.take k) + (m.getD k []).length ≤ tot m := by
  rw [← tot_take_succ m k h]; exact tot_take_le m (k + 1)
theorem Own.shape {w : World} {base : Nat} {v : Value} {xs : List Int} (h : Own w base v xs) : ∃ a n c, v = .slice a n c := by
  rcases h.2 with ⟨rfl, _⟩ | ⟨g, cap, cur, rfl, _⟩
  · exact ⟨_, _, _, rfl⟩
  · exact ⟨_, _, _, rfl⟩

/-- 'make([][]int, n)': n rows of nothing of the call's own, in the next block. -/
theorem wpList_make_rows {w : World} {ops : Array Oper} {rest : List Oper} {o : Oper} {a : Act} {Q : Exit → Act → World → Prop} (hg : o.guard = none) (l c : Operand) (hop : o.op = Op.makeSlice 57 l c)
    (L C : Int) (n : Nat) (hl : a.eval l = .int .i64 L) (hc : a.eval c = .int .i64 C) (hL : L = (n : Int)) (hC : C = (n : Int)) (hn : n ≤ 1048576)
    (h : ∀ w', MatV w' w.heap.size w'.heap.size (.slice (some ⟨w.heap.size, 0, none⟩) n n) (List.replicate n nilRow) (List.replicate n []) → w.grownBy w' none → wpList Tryz.prog ops Q rest (a.put o.dst (.slice (some ⟨w.heap.size, 0, none⟩) n n)) w') : wpList Tryz.prog ops Q (o :: rest) a w := by
  obtain ⟨i0, hi, hz0, hz1, hz2⟩ := info_parts infoRow
  refine wpList_make_full w hg l c _ hop w.heap.size 27 i0 (.slice none 0 0) 1 Tryz.underlying57 hi hz0 hz1 _ _ L C n hl hc hL hC (by rw [hz2]; omega) (by unfold maxLen; omega) (Nat.le_refl _) ?_
  intro w' ho hg'
  refine h w' ?_ hg'
  have e : (madeCells (Value.slice none 0 0).cells (n * 1)).toList = List.replicate n nilRow := by
    rw [Nat.mul_one]; exact toList_madeCells_one _ n
  rw [e] at ho
  have g1 : ∀ i, i < n → (List.replicate n nilRow).getD i nilRow = nilRow := fun i hi => by simp [List.getD_eq_getElem?_getD, hi]
  refine ⟨by simp, by rw [List.length_replicate]; exact ho, ?_, fun k hk => (World.ownsRow.lt ho k hk).2, ?_, ?_⟩
  · intro i hi
    rw [List.length_replicate] at hi
    rw [g1 i hi]
    have g2 : (List.replicate n ([] : List Int)).getD i [] = [] := by simp [List.getD_eq_getElem?_getD, hi]
    rw [g2]
    exact World.ownsRow_nil _ _ _ _
  · intro i k hi hk
    rw [List.length_replicate] at hi
    rw [g1 i hi] at hk
    simp [Value.ownBlock] at hk
  · intro i j hi hj _
    rw [List.length_replicate] at hi
    rw [g1 i hi]
    exact .inl rfl

/-- The first k rows; nothing in the others. -/
def toTo (m : List (List Int)) (k : Nat) : List (List Int) := m.take k ++ List.replicate (m.length - k) []
theorem toTo_length (m : List (List Int)) (k : Nat) (h : k ≤ m.length) : (toTo m k).length = m.length := by simp [toTo]; omega
theorem toTo_step (m : List (List Int)) (k : Nat) (h : k < m.length) : (toTo m k).set k (m.getD k []) = toTo m (k + 1) := by
  have e1 : (m.take k).length = k := by simp; omega
  unfold toTo
  rw [List.set_append_right _ _ (by omega), e1, Nat.sub_self]
  obtain ⟨j, hm⟩ : ∃ j, m.length - k = j + 1 := ⟨m.length - k - 1, by omega⟩
  have hm2 : m.length - (k + 1) = j := by omega
  rw [hm, hm2, List.replicate_succ, List.set_cons_zero, List.take_succ_eq_append_getElem h, List.append_assoc]
  simp only [List.getD_eq_getElem?_getD, List.getElem?_eq_getElem h, Option.getD_some, List.singleton_append]
theorem toTo_end (m : List (List Int)) : toTo m m.length = m := by simp [toTo]
theorem toTo_zero (m : List (List Int)) : toTo m 0 = List.replicate m.length [] := by simp [toTo]

set_option maxRecDepth 100000 in
set_option maxHeartbeats 400000 in
theorem eqIntS_quiet (v1 v2 : Value) (xs : List Int) (w : World) (h1 : Rd w v1 xs) (h2 : Rd w v2 xs) :
    Calls Tryz.prog 11 #[v1, v2] w fun e w' => e = .returned (.bool true) ∧ ∃ n, w' = w.drewN n := by
  obtain ⟨a1, c1, rfl, _, m1, k1⟩ := h1
  obtain ⟨a2, c2, rfl, _, _, k2⟩ := h2
  have hm : xs.length ≤ maxLen := by omega
  unfold maxLen at hm
  have K := hide k1
  have L := hide k2
  clear k1 k2 m1
  go_enter Tryz.func11, Tryz.ntmps11
  go_wp2
  go_loopw [5] (fun vi wr => ∃ k n : Nat, k ≤ xs.length ∧ vi = .int .i64 k ∧ wr = w.drewN n) (fun vi _ => xs.length - (intOf vi).toNat)
  case atStart => exact ⟨0, 0, Nat.zero_le _, rfl, rfl⟩
  case round =>
    obtain ⟨k, n, hk, rfl, rfl⟩ := hrel
    by_cases hlt : k < xs.length
    · rcases K.out with h3 | ⟨b, off, rfl, hbs, hc⟩
      · subst h3; simp at hlt
      rcases L.out with h3 | ⟨b', off', rfl, hbs', hc'⟩
      · subst h3; simp at hlt
      have e1 : w.cell? ⟨b, off + k, none⟩ = some (.int .i64 (xs.getD k 0)) := hc k hlt
      have e2 : w.cell? ⟨b', off' + k, none⟩ = some (.int .i64 (xs.getD k 0)) := hc' k hlt
      have hlt' : (k : Int) < (xs.length : Int) := by omega
      clear hc hc'
      go_wp2
      go_quiet (fail)
      go_wp2
      go_roundw
      case rel => exact ⟨k + 1, _, by omega, by go_num, rfl⟩
      case measure => simp [intOf]; omega
    · obtain rfl : k = xs.length := by omega
      go_wp2
      go_ret
      exact ⟨rfl, _, rfl⟩
theorem quiet_more {P : Program} {f : FuncId} {args : Array Value} {w : World} {n : Nat} {v : Value}
    (h : Calls P f args (w.drewN n) fun e w' => e = .returned v ∧ ∃ m, w' = (w.drewN n).drewN m) : Calls P f args (w.drewN n) fun e w'' => e = .returned v ∧ ∃ m, w'' = w.drewN m :=
  h.mono fun _ _ ⟨he, m, hm⟩ => ⟨he, n + m, by rw [hm, World.drewN_drewN]⟩
theorem Rd.drewN {w : World} {v : Value} {xs : List Int} (h : Rd w v xs) (n : Nat) : Rd (w.drewN n) v xs := h.below (below_drewN' n)

/-- The rows' marks: each row's numbers go on where the row ahead of it stopped. -/
def mkM (k : Int) (m : List (List Int)) (j : Nat) : List Int := marks (k + tot (m.take j)) (m.getD j []).length
def mkToM (k : Int) (m : List (List Int)) (i : Nat) : List (List Int) := (List.range i).map (mkM k m) ++ m.drop i
def marksM (k : Int) (m : List (List Int)) : List (List Int) := (List.range m.length).map (mkM k m)
theorem mkToM_length (k : Int) (m : List (List Int)) (i : Nat) (h : i ≤ m.length) : (mkToM k m i).length = m.length := by simp [mkToM]; omega
theorem mkToM_get (k : Int) (m : List (List Int)) (i : Nat) : (mkToM k m i).getD i [] = m.getD i [] := by
  simp only [mkToM, List.getD_eq_getElem?_getD]
  rw [List.getElem?_append_right (by simp)]
  simp
theorem mkToM_step (k : Int) (m : List (List Int)) (i : Nat) (h : i < m.length) : (mkToM k m i).set i (mkM k m i) = mkToM k m (i + 1) := by
  unfold mkToM
  rw [List.set_append_right _ _ (by simp), List.length_map, List.length_range, Nat.sub_self, List.drop_eq_getElem_cons h, List.set_cons_zero]
  simp [List.range_succ]
theorem mkToM_end (k : Int) (m : List (List Int)) : mkToM k m m.length = marksM k m := by simp [mkToM, marksM]
theorem marksM_length (k : Int) (m : List (List Int)) : (marksM k m).length = m.length := by simp [marksM]
theorem marksM_get (k : Int) (m : List (List Int)) (i : Nat) (h : i < m.length) : (marksM k m).getD i [] = mkM k m i := by simp [marksM, h]

end Go.Proofs.YtdoldboefceliaaGreatDoor

namespace Go.Proofs.YtdoldboefceliaaGreatDoor
open Go.RowKit
namespace Gf

theorem isE_yes (a : Int) (w : World) (ha0 : 0 ≤ a) (ha : a < 256) :
    Calls Tryz.prog 192 #[.int .i64 a] w fun e w' => e = .returned (.bool true) ∧ w = w' := by
  go_enter Tryz.func192, Tryz.ntmps192
  go_wp2
  go_ret
  exact ⟨rfl, rfl⟩
theorem l1In_yes (a lo hi : Int) (w : World) (ha0 : lo ≤ a) (ha : a ≤ hi) :
    Calls Tryz.prog 69 #[.int .i64 a, .int .i64 lo, .int .i64 hi] w fun e w' => e = .returned (.bool true) ∧ w = w' := by
  go_enter Tryz.func69, Tryz.ntmps69
  go_wp2
  go_ret
  exact ⟨rfl, rfl⟩
theorem l1Gf_yes (a : Int) (w : World) (ha0 : 0 ≤ a) (ha : a ≤ 255) :
    Calls Tryz.prog 182 #[.int .i64 a] w fun e w' => e = .returned (.bool true) ∧ w = w' := by
  go_enter Tryz.func182, Tryz.ntmps182
  go_wp2
  go_ret
  exact ⟨rfl, rfl⟩
/-- An owned slice that is not empty, opened. -/
theorem Own.open {w : World} {base : Nat} {v : Value} {xs : List Int} (h : Own w base v xs) (hn : 0 < xs.length) :
    ∃ g cap, v = .slice (some ⟨g, 0, none⟩) xs.length cap ∧ base ≤ g ∧ g < w.heap.size ∧ ∀ i, i < xs.length → w.cell? ⟨g, i, none⟩ = some (.int .i64 (xs.getD i 0)) := by
  rcases h.2 with ⟨_, h0⟩ | ⟨g, cap, cur, rfl, hb, hg, _⟩
  · omega
  · refine ⟨g, cap, rfl, hb, (Array.getElem?_eq_some_iff.1 hg).1, fun i hi => ?_⟩
    rw [World.ownsRow.cellAt h i (by omega)]
    simp [hi]

def elOk (x : Int) : Bool := decide (0 ≤ x ∧ x ≤ 255)
theorem ret_bool {a b : Bool} (h : a = b) : Ending.returned (.bool a) = .returned (.bool b) := by rw [h]
theorem elOk_iff {x : Int} : elOk x = true ↔ 0 ≤ x ∧ x ≤ 255 := by simp [elOk]
theorem elOk_no {x : Int} : elOk x = false ↔ ¬ (0 ≤ x ∧ x ≤ 255) := by simp [elOk]
theorem all_of_getD {xs : List Int} : (xs.all elOk = true) ↔ ∀ i, i < xs.length → elOk (xs.getD i 0) = true := by
  rw [List.all_eq_true]
  constructor
  · intro h i hi
    rw [List.getD_eq_getElem?_getD, List.getElem?_eq_getElem hi, Option.getD_some]
    exact h _ (List.getElem_mem hi)
  · intro h x hx
    obtain ⟨i, hi, rfl⟩ := List.mem_iff_getElem.1 hx
    have := h i hi
    rwa [List.getD_eq_getElem?_getD, List.getElem?_eq_getElem hi, Option.getD_some] at this
theorem all_bad {xs : List Int} {k : Nat} (hk : k < xs.length) (h : elOk (xs.getD k 0) = false) : xs.all elOk = false := by
  cases hh : xs.all elOk with
  | false => rfl
  | true => rw [all_of_getD.1 hh k hk] at h; cases h
/-- An element's outcome, in the walk's own form. -/
theorem elOk_tests {z : Int} (h : elOk z = true) : 0 ≤ z ∧ z < 256 := by have := elOk_iff.1 h; omega

set_option maxRecDepth 100000 in
theorem isE_calls (a : Int) (w : World) :
    Calls Tryz.prog 192 #[.int .i64 a] w fun e w' => e = .returned (.bool (elOk a)) ∧ w = w' := by
  by_cases h : 0 ≤ a
  · by_cases h2 : a < 256
    · have e : elOk a = true := elOk_iff.2 (by omega)
      rw [e]
      exact isE_yes a w h h2
    · have e : elOk a = false := elOk_no.2 (by omega)
      rw [e]
      go_enter Tryz.func192, Tryz.ntmps192
      go_wp2
      go_ret
      exact ⟨rfl, rfl⟩
  · have e : elOk a = false := elOk_no.2 (by omega)
    rw [e]
    go_enter Tryz.func192, Tryz.ntmps192
    go_wp2
    go_ret
    exact ⟨rfl, rfl⟩
set_option maxRecDepth 100000 in
theorem l1Gf_calls (a : Int) (w : World) :
    Calls Tryz.prog 182 #[.int .i64 a] w fun e w' => e = .returned (.bool (elOk a)) ∧ w = w' := by
  by_cases h : 0 ≤ a
  · by_cases h2 : a ≤ 255
    · have e : elOk a = true := elOk_iff.2 (by omega)
      rw [e]
      exact l1Gf_yes a w h h2
    · have e : elOk a = false := elOk_no.2 (by omega)
      rw [e]
      go_enter Tryz.func182, Tryz.ntmps182
      go_wp2
      go_ret
      exact ⟨rfl, rfl⟩
  · have e : elOk a = false := elOk_no.2 (by omega)
    rw [e]
    go_enter Tryz.func182, Tryz.ntmps182
    go_wp2
    go_ret
    exact ⟨rfl, rfl⟩

set_option maxRecDepth 100000 in
set_option maxHeartbeats 400000 in
theorem l1All_calls (v : Value) (xs : List Int) (w : World) (h : Rd w v xs) :
    Calls Tryz.prog 139 #[v] w fun e w' => e = .returned (.bool (xs.all elOk)) ∧ w = w' := by
  obtain ⟨a, cap, rfl, h1, h2, h3⟩ := h
  have hm : xs.length ≤ maxLen := by omega
  unfold maxLen at hm
  have H := hide h3
  clear h3 h2
  go_enter Tryz.func139, Tryz.ntmps139
  go_wp2
  go_loop [7] (fun vi => ∃ k : Nat, k ≤ xs.length ∧ vi = .int .i64 k ∧ ∀ i, i < k → elOk (xs.getD i 0) = true) (fun vi => xs.length - (intOf vi).toNat)
  case atStart => exact ⟨0, Nat.zero_le _, rfl, fun i hi => by omega⟩
  case round =>
    obtain ⟨k, hk, rfl, hall⟩ := hrel
    have A := hide hall
    clear hall
    by_cases hlt : k < xs.length
    · rcases H.out with h3 | ⟨b, off, rfl, hbs, hc⟩
      · subst h3; simp at hlt
      have hc1 := hc k hlt
      clear hc
      obtain ⟨z, hz⟩ : ∃ z, z = xs.getD k 0 := ⟨_, rfl⟩
      rw [← hz] at hc1
      have Z := hide hz
      clear hz
      cases hel : elOk z with
      | true =>
        go_wp2_with (go_at_call 182; refine (l1Gf_calls _ _).mono ?_; rintro e w' ⟨rfl, rfl⟩)
        go_round
        case rel =>
          refine ⟨k + 1, by omega, by go_num, fun i hi => ?_⟩
          by_cases e : i = k
          · subst e; rw [← Z.out]; exact hel
          · exact A.out i (by omega)
        case measure => simp [intOf]; omega
      | false =>
        go_wp2_with (go_at_call 182; refine (l1Gf_calls _ _).mono ?_; rintro e w' ⟨rfl, rfl⟩)
        go_ret
        exact ⟨ret_bool (by rw [all_bad hlt (by rw [← Z.out]; exact hel)]), rfl⟩
    · obtain rfl : k = xs.length := by omega
      go_wp2
      go_ret
      exact ⟨ret_bool (by rw [all_of_getD.2 A.out]), rfl⟩

theorem quiet_same {P : Program} {f : FuncId} {args : Array Value} {w : World} {n : Nat} {v : Value}
    (h : Calls P f args (w.drewN n) fun e w' => e = .returned v ∧ w.drewN n = w') : Calls P f args (w.drewN n) fun e w'' => e = .returned v ∧ ∃ m, w'' = w.drewN m :=
  h.mono fun _ _ ⟨he, hm⟩ => ⟨he, n, hm.symm⟩
set_option maxRecDepth 100000 in
set_option maxHeartbeats 400000 in
theorem areElements_calls (v : Value) (xs : List Int) (w : World) (h : Rd w v xs) :
    Calls Tryz.prog 155 #[v] w fun e w' => e = .returned (.bool (xs.all elOk)) ∧ w = w' := by
  obtain ⟨a, cap, rfl, h1, h2, h3⟩ := h
  have hm : xs.length ≤ maxLen := by omega
  unfold maxLen at hm
  have H := hide h3
  clear h3 h2
  go_enter Tryz.func155, Tryz.ntmps155
  go_wp2
  go_loop [7] (fun vi => ∃ k : Nat, k ≤ xs.length ∧ vi = .int .i64 k ∧ ∀ i, i < k → elOk (xs.getD i 0) = true) (fun vi => xs.length - (intOf vi).toNat)
  case atStart => exact ⟨0, Nat.zero_le _, rfl, fun i hi => by omega⟩
  case round =>
    obtain ⟨k, hk, rfl, hall⟩ := hrel
    have A := hide hall
    clear hall
    by_cases hlt : k < xs.length
    · rcases H.out with h3 | ⟨b, off, rfl, hbs, hc⟩
      · subst h3; simp at hlt
      have hc1 := hc k hlt
      clear hc
      obtain ⟨z, hz⟩ : ∃ z, z = xs.getD k 0 := ⟨_, rfl⟩
      rw [← hz] at hc1
      have Z := hide hz
      clear hz
      cases hel : elOk z with
      | true =>
        go_wp2_with (go_at_call 192; refine (isE_calls _ _).mono ?_; rintro e w' ⟨rfl, rfl⟩)
        go_round
        case rel =>
          refine ⟨k + 1, by omega, by go_num, fun i hi => ?_⟩
          by_cases e : i = k
          · subst e; rw [← Z.out]; exact hel
          · exact A.out i (by omega)
        case measure => simp [intOf]; omega
      | false =>
        go_wp2_with (go_at_call 192; refine (isE_calls _ _).mono ?_; rintro e w' ⟨rfl, rfl⟩)
        go_ret
        exact ⟨ret_bool (by rw [all_bad hlt (by rw [← Z.out]; exact hel)]), rfl⟩
    · obtain rfl : k = xs.length := by omega
      go_wp2
      go_ret
      exact ⟨ret_bool (by rw [all_of_getD.2 A.out]), rfl⟩
set_option maxRecDepth 100000 in
theorem l1In_calls (a lo hi : Int) (w : World) :
    Calls Tryz.prog 69 #[.int .i64 a, .int .i64 lo, .int .i64 hi] w fun e w' => e = .returned (.bool (decide (lo ≤ a ∧ a ≤ hi))) ∧ w = w' := by
  by_cases h : lo ≤ a
  · by_cases h2 : a ≤ hi
    · rw [decide_eq_true ⟨h, h2⟩]
      exact l1In_yes a lo hi w h h2
    · rw [decide_eq_false (fun e => h2 e.2)]
      go_enter Tryz.func69, Tryz.ntmps69
      go_wp2
      go_ret
      exact ⟨rfl, rfl⟩
  · rw [decide_eq_false (fun e => h e.1)]
    go_enter Tryz.func69, Tryz.ntmps69
    go_wp2
    go_ret
    exact ⟨rfl, rfl⟩
end Gf
end Go.Proofs.YtdoldboefceliaaGreatDoor

namespace Go.Proofs.YtdoldboefceliaaGreatDoor
open Go.RowKit

theorem all_yes {α : Type} {l : List α} {d : α} {p : α → Bool} (h : ∀ i, i < l.length → p (l.getD i d) = true) : l.all p = true := by
  rw [List.all_eq_true]
  intro x hx
  obtain ⟨i, hi, rfl⟩ := List.mem_iff_getElem.1 hx
  have := h i hi
  rwa [List.getD_eq_getElem?_getD, List.getElem?_eq_getElem hi, Option.getD_some] at this
theorem all_at {α : Type} {l : List α} {d : α} {p : α → Bool} (h : l.all p = true) (i : Nat) (hi : i < l.length) : p (l.getD i d) = true := by
  rw [List.getD_eq_getElem?_getD, List.getElem?_eq_getElem hi, Option.getD_some]
  exact List.all_eq_true.1 h _ (List.getElem_mem hi)
theorem all_no {α : Type} {l : List α} {d : α} {p : α → Bool} {k : Nat} (hk : k < l.length) (h : p (l.getD k d) = false) : l.all p = false := by
  cases hh : l.all p with
  | false => rfl
  | true => rw [all_at hh k hk] at h; cases h
theorem Rd.row {w : World} {a : Option Addr} {n cap : Nat} {xs : List Int} (h : Rd w (.slice a n cap) xs) (i : Nat) (hi : i < xs.length) :
    ∃ b off u, a = some ⟨b, off, none⟩ ∧ w.cell? ⟨b, off + i, none⟩ = some u ∧ u = .int .i64 (xs.getD i 0) := by
  obtain ⟨a', cap', hv, _, _, h3⟩ := h
  simp only [Value.slice.injEq] at hv
  obtain ⟨rfl, rfl, rfl⟩ := hv
  rcases h3 with h3 | ⟨b, off, rfl, hlt, hc⟩
  · subst h3; simp at hi
  · exact ⟨b, off, _, rfl, hc i hi, rfl⟩

set_option maxRecDepth 100000 in
theorem isSide_calls (n : Int) (w : World) :
    Calls Tryz.prog 221 #[.int .i64 n] w fun e w' => e = .returned (.bool (decide (1 ≤ n ∧ n ≤ 8))) ∧ w = w' := by
  by_cases h : 1 ≤ n
  · by_cases h2 : n ≤ 8
    · rw [decide_eq_true ⟨h, h2⟩]
      go_enter Tryz.func221, Tryz.ntmps221
      go_wp2
      go_ret
      exact ⟨rfl, rfl⟩
    · rw [decide_eq_false (fun e => h2 e.2)]
      go_enter Tryz.func221, Tryz.ntmps221
      go_wp2
      go_ret
      exact ⟨rfl, rfl⟩
  · rw [decide_eq_false (fun e => h e.1)]
    go_enter Tryz.func221, Tryz.ntmps221
    go_wp2
    go_ret
    exact ⟨rfl, rfl⟩
set_option maxRecDepth 100000 in
theorem isLong_calls (u : Value) (r : List Int) (n : Int) (g : Nat) (w : World) (h : Rd w u r) (hg : w.cell? ⟨g, 0, none⟩ = some (.int .i64 n)) :
    Calls Tryz.prog 133 #[u, .pointer (some ⟨g, 0, none⟩)] w fun e w' => e = .returned (.bool ((fun r : List Int => decide ((r.length : Int) = n)) r)) ∧ w = w' := by
  obtain ⟨a, cap, rfl, h1, h2, h3⟩ := h
  clear h3 h2 h1
  by_cases h : (r.length : Int) = n
  · simp only [decide_eq_true h]
    have e : ((r.length : Int) == n) = true := by simp [h]
    have H := hide h
    clear h
    go_enter Tryz.func133, Tryz.ntmps133
    go_wp2
    go_ret
    exact ⟨rfl, rfl⟩
  · simp only [decide_eq_false h]
    have e : ((r.length : Int) == n) = false := by simp [h]
    go_enter Tryz.func133, Tryz.ntmps133
    go_wp2
    go_ret
    exact ⟨rfl, rfl⟩
theorem areEls_calls (v : Value) (xs : List Int) (w : World) (h : Rd w v xs) :
    Calls Tryz.prog 155 #[v] w fun e w' => e = .returned (.bool ((fun r : List Int => r.all Gf.elOk) xs)) ∧ w = w' := Gf.areElements_calls v xs w h
set_option maxRecDepth 100000 in
set_option maxHeartbeats 800000 in
theorem allLong_calls (v : Value) (m : List (List Int)) (n : Int) (g : Nat) (w : World) (h : RdM w v m) (hg : w.cell? ⟨g, 0, none⟩ = some (.int .i64 n)) :
    Calls Tryz.prog 132 #[v, .func (.func 133) #[] #[.pointer (some ⟨g, 0, none⟩)]] w fun e w' => e = .returned (.bool (m.all (fun r : List Int => decide ((r.length : Int) = n)))) ∧ w = w' := by
  have R := hide h
  obtain ⟨a, cap, rfl, h1, h2, h3⟩ := h
  have hm : m.length ≤ maxLen := by omega
  unfold maxLen at hm
  obtain ⟨p, hp⟩ : ∃ p, p = (fun r : List Int => decide ((r.length : Int) = n)) := ⟨_, rfl⟩
  rw [← hp]
  have HP := hide hp
  clear h3 h2 h1 hp
  go_enter Tryz.func132, Tryz.ntmps132
  go_wp2
  go_loop [9] (fun vi => ∃ k : Nat, k ≤ m.length ∧ vi = .int .i64 k ∧ ∀ i, i < k → p (m.getD i []) = true) (fun vi => m.length - (intOf vi).toNat)
  case atStart => exact ⟨0, Nat.zero_le _, rfl, fun i hi => by omega⟩
  case round =>
    obtain ⟨k, hk, rfl, hall⟩ := hrel
    have A := hide hall
    clear hall
    by_cases hlt : k < m.length
    · have hlt' : (k : Int) < (m.length : Int) := by omega
      obtain ⟨b, off, u, rfl, hc1, hu⟩ := R.out.row k hlt
      obtain ⟨r, hr⟩ : ∃ r, r = m.getD k [] := ⟨_, rfl⟩
      rw [← hr] at hu
      have U := hide hu
      have Hr := hide hr
      clear hu hr
      obtain ⟨q, hq⟩ : ∃ q, q = p r := ⟨_, rfl⟩
      have Q := hide hq
      have HC : Hid (Calls Tryz.prog 133 #[u, .pointer (some ⟨g, 0, none⟩)] w fun e w' => e = .returned (.bool q) ∧ w = w') := by
        rw [hq, HP.out]
        exact isLong_calls _ r _ _ _ U.out hg
      cases q with
      | true =>
        clear hq
        go_wp2_with (go_at_call 133; refine HC.out.mono ?_; rintro e w' ⟨rfl, rfl⟩)
        go_round
        case rel =>
          refine ⟨k + 1, by omega, by go_num, fun i hi => ?_⟩
          by_cases e : i = k
          · subst e; rw [← Hr.out, ← Q.out]
          · exact A.out i (by omega)
        case measure => simp [intOf]; omega
      | false =>
        clear hq
        go_wp2_with (go_at_call 133; refine HC.out.mono ?_; rintro e w' ⟨rfl, rfl⟩)
        go_ret
        exact ⟨Gf.ret_bool (all_no hlt (by rw [← Hr.out, ← Q.out])).symm, rfl⟩
    · obtain rfl : k = m.length := by omega
      go_wp2
      go_ret
      exact ⟨Gf.ret_bool (all_yes A.out).symm, rfl⟩
set_option maxRecDepth 100000 in
set_option maxHeartbeats 800000 in
theorem allEls_calls (v : Value) (m : List (List Int))  (w : World) (h : RdM w v m) :
    Calls Tryz.prog 132 #[v, .func (.func 155) #[] #[]] w fun e w' => e = .returned (.bool (m.all (fun r : List Int => r.all Gf.elOk))) ∧ w = w' := by
  have R := hide h
  obtain ⟨a, cap, rfl, h1, h2, h3⟩ := h
  have hm : m.length ≤ maxLen := by omega
  unfold maxLen at hm
  obtain ⟨p, hp⟩ : ∃ p, p = (fun r : List Int => r.all Gf.elOk) := ⟨_, rfl⟩
  rw [← hp]
  have HP := hide hp
  clear h3 h2 h1 hp
  go_enter Tryz.func132, Tryz.ntmps132
  go_wp2
  go_loop [9] (fun vi => ∃ k : Nat, k ≤ m.length ∧ vi = .int .i64 k ∧ ∀ i, i < k → p (m.getD i []) = true) (fun vi => m.length - (intOf vi).toNat)
  case atStart => exact ⟨0, Nat.zero_le _, rfl, fun i hi => by omega⟩
  case round =>
    obtain ⟨k, hk, rfl, hall⟩ := hrel
    have A := hide hall
    clear hall
    by_cases hlt : k < m.length
    · have hlt' : (k : Int) < (m.length : Int) := by omega
      obtain ⟨b, off, u, rfl, hc1, hu⟩ := R.out.row k hlt
      obtain ⟨r, hr⟩ : ∃ r, r = m.getD k [] := ⟨_, rfl⟩
      rw [← hr] at hu
      have U := hide hu
      have Hr := hide hr
      clear hu hr
      obtain ⟨q, hq⟩ : ∃ q, q = p r := ⟨_, rfl⟩
      have Q := hide hq
      have HC : Hid (Calls Tryz.prog 155 #[u] w fun e w' => e = .returned (.bool q) ∧ w = w') := by
        rw [hq, HP.out]
        exact areEls_calls _ r _ U.out
      cases q with
      | true =>
        clear hq
        go_wp2_with (go_at_call 155; refine HC.out.mono ?_; rintro e w' ⟨rfl, rfl⟩)
        go_round
        case rel =>
          refine ⟨k + 1, by omega, by go_num, fun i hi => ?_⟩
          by_cases e : i = k
          · subst e; rw [← Hr.out, ← Q.out]
          · exact A.out i (by omega)
        case measure => simp [intOf]; omega
      | false =>
        clear hq
        go_wp2_with (go_at_call 155; refine HC.out.mono ?_; rintro e w' ⟨rfl, rfl⟩)
        go_ret
        exact ⟨Gf.ret_bool (all_no hlt (by rw [← Hr.out, ← Q.out])).symm, rfl⟩
    · obtain rfl : k = m.length := by omega
      go_wp2
      go_ret
      exact ⟨Gf.ret_bool (all_yes A.out).symm, rfl⟩

set_option maxRecDepth 100000 in
theorem areAllLong_calls (v : Value) (m : List (List Int)) (n : Int) (w : World) (h : RdM w v m) :
    Calls Tryz.prog 87 #[v, .int .i64 n] w fun e w' => e = .returned (.bool (m.all fun r : List Int => decide ((r.length : Int) = n))) ∧ Below w.heap.size w w' := by
  have R := hide h
  have S : ∃ a n c, v = .slice a n c := by
    obtain ⟨a, cap, rfl, _⟩ := h
    exact ⟨_, _, _, rfl⟩
  obtain ⟨a, k, c, rfl⟩ := S
  clear h
  go_enter Tryz.func87, Tryz.ntmps87
  go_wp2_with fail
  refine (allLong_calls _ m n _ _ (R.out.below ((Below.refl _ _).alloc (Nat.le_refl _) _)) (World.cell?_alloc_at _ _ _ _ rfl)).mono ?_
  rintro e w' ⟨rfl, rfl⟩
  go_wp2
  go_ret
  exact ⟨rfl, (Below.refl _ _).alloc (Nat.le_refl _) _⟩

/-- What both call a matrix. -/
def goodM (m : List (List Int)) : Bool :=
  decide (1 ≤ (m.length : Int) ∧ (m.length : Int) ≤ 8) && (decide (1 ≤ ((m.getD 0 []).length : Int) ∧ ((m.getD 0 []).length : Int) ≤ 8) && (m.all (fun r : List Int => decide ((r.length : Int) = ((m.getD 0 []).length : Int))) && m.all (fun r : List Int => r.all Gf.elOk)))
theorem goodM_rows {m : List (List Int)} (h : goodM m = true) : 1 ≤ m.length ∧ m.length ≤ 8 ∧ 1 ≤ (m.getD 0 []).length ∧ (m.getD 0 []).length ≤ 8 ∧ ∀ i, i < m.length → (m.getD i []).length = (m.getD 0 []).length ∧ (m.getD i []).all Gf.elOk = true := by
  simp only [goodM, Bool.and_eq_true, decide_eq_true_eq] at h
  obtain ⟨h1, h2, h3, h4⟩ := h
  refine ⟨by omega, by omega, by omega, by omega, fun i hi => ⟨?_, all_at h4 i hi⟩⟩
  have := all_at (d := []) h3 i hi
  simp only [decide_eq_true_eq] at this
  omega
theorem goodM_tot {m : List (List Int)} (h : goodM m = true) : m.length + tot m ≤ 1048576 := by
  obtain ⟨h1, h2, h3, h4, h5⟩ := goodM_rows h
  have : ∀ k, k ≤ m.length → tot (m.take k) ≤ 8 * k := by
    intro k
    induction k with
    | zero => intro _; simp [tot]
    | succ k ih =>
      intro hk
      rw [tot_take_succ m k (by omega)]
      have := ih (by omega)
      have := (h5 k (by omega)).1
      omega
  have := this m.length (Nat.le_refl _)
  rw [List.take_length] at this
  omega

end Go.Proofs.YtdoldboefceliaaGreatDoor
