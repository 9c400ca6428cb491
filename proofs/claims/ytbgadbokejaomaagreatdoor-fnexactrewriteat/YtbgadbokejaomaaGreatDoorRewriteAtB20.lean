/-
  A text in pieces: the model's SplitBody and the program's, call by call. No condition but a bound on the text's length. The laws' own small functions over rows of integers (how great, copied, compared, marked, looked whether the marks are held), call by call. Each contract says what it asks. Elements of the field in lists: which integers are elements, which lists hold elements alone, which integers lie between two: the program's functions and its model's, call by call; memory stays as it was. No condition. Which rows of rows are matrices: the program's function and its model's, call by call: both answer 'goodM'. No condition. Unlike elements: plain mathematics. No call is walked here. Powers, inverses, quotients and orders as the program and its model make them, and the public functions of the field: each returns what the plain functions say, and leaves memory as it was. The program's table of rests must hold its seven numbers where the program's own functions are called. The small functions of the field that later chapters call (products, quotients, inverses): the program's and its model's, call by call; memory stays as it was. The program's table of rests must hold its seven numbers where the program's own functions reckon.
-/
import Derived.Test.YtbgadbokejaomaaGreatDoorRewriteAtB4
import Derived.Test.YtbgadbokejaomaaGreatDoorRewriteAtB15
import Derived.Test.YtbgadbokejaomaaGreatDoorRewriteAtB6
import Derived.Test.YtbgadbokejaomaaGreatDoorRewriteAtB5
import Derived.Deep.RegionWith
import Derived.Test.YtbgadbokejaomaaGreatDoorRewriteAtB0
namespace Go.Proofs.YtbgadbokejaomaaGreatDoor
open Go.RowKit
set_option linter.unusedVariables false

/-- The k-th piece of 16 bytes. -/
def pc (S : ByteArray) (k : Nat) : ByteArray := ofN (((bs S).drop (16 * k)).take 16)
def pcs (S : ByteArray) (k : Nat) : List ByteArray := (List.range k).map (pc S)
theorem pcs_succ (S : ByteArray) (k : Nat) : pcs S (k + 1) = pcs S k ++ [pc S k] := by simp [pcs, List.range_succ]
theorem pcs_length (S : ByteArray) (k : Nat) : (pcs S k).length = k := by simp [pcs]
theorem pc_size (S : ByteArray) (k : Nat) : (pc S k).size = min 16 (S.size - 16 * k) := by
  unfold pc
  rw [ofN_size, List.length_take, List.length_drop, bs_length]
/-- How many pieces there are. -/
def many (S : ByteArray) : Nat := (S.size + 15) / 16
def splR (S : ByteArray) : List ByteArray × Bool := if 1 ≤ S.size ∧ S.size ≤ 160 then (pcs S (many S), true) else ([], false)
theorem ownT_nil (w : World) (base : Nat) : OwnT w base (.slice none 0 0) [] := World.ownsRow_nil _ _ _ _
theorem own_ge {w : World} {base : Nat} {v : Value} {xs : List ByteArray} (h : OwnT w base v xs) : ∀ j, v.ownBlock = some j → base ≤ j := by
  intro j hj
  rcases h.2 with ⟨rfl, _⟩ | ⟨g, cap, cur, rfl, hb, _⟩
  · simp [Value.ownBlock] at hj
  · simp [Value.ownBlock] at hj
    omega
theorem ownsRow_less {w : World} {base base' n : Nat} {v : Value} {xs : List Value} (h : w.ownsRow base 9 1 v n xs) (hb : base' ≤ base) : w.ownsRow base' 9 1 v n xs := by
  refine ⟨h.1, ?_⟩
  rcases h.2 with hn | ⟨g, cap, cur, rfl, hb', rest⟩
  · exact .inl hn
  · exact .inr ⟨g, cap, cur, rfl, Nat.le_trans hb hb', rest⟩
theorem own_slice {w : World} {base : Nat} {v : Value} {xs : List ByteArray} (h : OwnT w base v xs) : ∃ a cap, v = .slice a xs.length cap := by
  rcases h.2 with ⟨rfl, h0⟩ | ⟨g, cap, cur, rfl, hb, _⟩
  · exact ⟨none, 0, by rw [h0]⟩
  · exact ⟨_, cap, rfl⟩
theorem OwnT.wide {w : World} {base n : Nat} {v : Value} {xs : List ByteArray} (h : OwnT w base v xs) (hn : n = xs.length) : w.ownsRow base 9 1 v n (xs.map Value.string) := by rw [hn]; exact h

theorem BRow.grown {w w' : World} {g m : Nat} {l : List Nat} {r : Option Nat} (h : BRow w g m l) (hg : w.grownBy w' r) (hne : ∀ j, r = some j → g < j) : BRow w' g m l := by
  have hl := h.lt
  obtain ⟨C, h1, h2⟩ := h
  refine ⟨C, ?_, h2⟩
  rw [hg.block g hl (fun e => by have := hne g e.symm; omega)]
  exact h1

set_option maxRecDepth 100000 in
set_option maxHeartbeats 1600000 in
theorem splitBody_calls (S : ByteArray) (w : World) (hS : S.size ≤ maxLen) :
    Calls Tryz.prog 141 #[.string S] w fun e w' => ∃ v, e = .returned (.tuple #[v, .bool (splR S).2]) ∧ OwnT w' w.heap.size v (splR S).1 ∧ Below w.heap.size w w' := by
  unfold maxLen at hS
  by_cases hg1 : 1 ≤ S.size
  case neg =>
    have er : splR S = ([], false) := if_neg (fun h => hg1 h.1)
    rw [er]
    clear er
    have h' : (S.size : Int) < 1 := by omega
    go_enter Tryz.func141, Tryz.ntmps141
    go_wp2
    go_ret2
    exact ⟨_, rfl, ownT_nil _ _, Below.refl _ _⟩
  by_cases hg2 : S.size ≤ 160
  case neg =>
    have er : splR S = ([], false) := if_neg (fun h => hg2 h.2)
    rw [er]
    clear er
    have h' : ¬ (S.size : Int) < 1 := by omega
    have h2' : (160 : Int) < (S.size : Int) := by omega
    go_enter Tryz.func141, Tryz.ntmps141
    go_wp2
    go_ret2
    exact ⟨_, rfl, ownT_nil _ _, Below.refl _ _⟩
  have er : splR S = (pcs S (many S), true) := if_pos ⟨hg1, hg2⟩
  rw [er]
  clear er
  have h1' : ¬ (S.size : Int) < 1 := by omega
  have h2' : ¬ (160 : Int) < (S.size : Int) := by omega
  have hlen := bs_length S
  have HLen := hide hlen
  clear hlen
  have hcv := conv_bytes S w
  have hr := bytesW_row S w
  have hb1 := bytesW_below S w
  have hc28 := bytesC_ge S w
  generalize bytesC S w = c at hcv hr hc28
  generalize bytesW S w = W at hcv hr hb1
  have hlt : w.heap.size < W.heap.size := hr.lt
  have RR := hide hr
  have S1 := hide hb1
  have O0 : Hid (OwnT (W.alloc (.cells #[] 9)) (w.heap.size + 1) (.slice (some ⟨W.heap.size, 0, none⟩) 0 0) []) := by
    show World.ownsRow _ _ _ _ _ _ _
    have := World.ownsRow_lit (base := w.heap.size + 1) (e := 9) (size := 1) W #[] 0 hlt (by unfold maxLen; omega) (by simp)
    simpa using this
  clear hr hb1
  go_enter Tryz.func141, Tryz.ntmps141
  go_wp2
  go_loopw [5, 6] (fun vo vf wr => ∃ k : Nat, vf = .int .i64 ((16 * k : Nat) : Int) ∧ 16 * k < S.size + 16 ∧ OwnT wr (w.heap.size + 1) vo (pcs S k) ∧ BRow wr w.heap.size c (bs S) ∧ Below w.heap.size w wr) (fun _ vf _ => (S.size + 16) - (intOf vf).toNat)
  case atStart => exact ⟨0, rfl, by omega, O0.out, RR.out.kept ((Below.refl _ _).alloc (Nat.le_refl _) _), S1.out.alloc (Nat.le_of_lt hlt) _⟩
  case round =>
    obtain ⟨k, rfl, hk, hown, hrow, hb⟩ := hrel
    have HB := hide hb
    obtain ⟨a0, cap0, rfl⟩ := own_slice hown
    have hpl := pcs_length S k
    have hge := own_ge hown
    have how : wr.ownsRow (w.heap.size + 1) 9 1 (.slice a0 (pcs S k).length cap0) (pcs S k).length ((pcs S k).map Value.string) := hown
    rw [hpl] at hge how
    rw [hpl]
    have O := hide how
    have GE := hide hge
    have HR := hide hrow
    have hwl : w.heap.size < wr.heap.size := hrow.lt
    clear hown hb hge hpl how hrow
    by_cases hlt2 : 16 * k < S.size
    · obtain ⟨f, hf⟩ : ∃ f, f = 16 * k := ⟨_, rfl⟩
      have HF := hide hf
      have hk10 : k ≤ 10 := by omega
      rw [← hf] at hlt2 hk ⊢
      clear hf
      have t1 : (f : Int) < (S.size : Int) := by omega
      by_cases hfull : S.size < f + 16
      · obtain ⟨n, hn⟩ : ∃ n, n = S.size - f := ⟨_, rfl⟩
        have hsub : Hid ((S.size : Int) - (f : Int) = (n : Int)) := by show _ = _; omega
        have hn16 : n < 16 := by omega
        have hfn : f + n = S.size := by omega
        have HFN := hide hfn
        have hfn' : f + n ≤ S.size := by omega
        have hcc : f + n ≤ c := by omega
        have t2 : (S.size : Int) - (f : Int) < 16 := by omega
        have t3 : ¬ (16 : Int) < (S.size : Int) - (f : Int) := by omega
        have t4 : ¬ (16 : Int) ≤ (S.size : Int) - (f : Int) := by omega
        clear hn hfn
        go_wp2_with fail
        rw [hsub.out]
        refine (cutBytes_any w.heap.size S.size c f n _ (by omega) (by omega)).mono ?_
        rintro e' w1 ⟨rfl, rfl⟩
        have hct := HR.out.cut (f := f) (n := n) (bs_lt S) (by rw [HLen.out]; omega)
        have hpc : Hid (ofN (((bs S).drop f).take n) = pc S k) := by
          show _ = _
          unfold pc
          rw [HF.out]
          rw [List.take_of_length_le (by rw [List.length_drop, HLen.out]; have := HF.out; have := HFN.out; omega), List.take_of_length_le (by rw [List.length_drop, HLen.out]; have := HF.out; have := HFN.out; omega)]
        generalize ofN (((bs S).drop f).take n) = T at hct hpc
        have O1 := hide (O.out.alloc (.cells #[.string T] 9))
        have hb2 : w.heap.size + 1 ≤ (wr.alloc (.cells #[.string T] 9)).heap.size := by simp; omega
        have hc1 : (wr.alloc (.cells #[.string T] 9)).cell? ⟨wr.heap.size, 0, none⟩ = some (.string T) := by rw [cell_of_row _ wr.heap.size 0 _ _ _ (heap_alloc_new wr _)]; rfl
        go_wp2_with (at_builtin; refine wpList_append_text1 rfl _ _ rfl (w.heap.size + 1) _ k (pcs S k) T rfl O1.out wr.heap.size rfl hc1 (by omega) hb2 ?_)
        intro v' w2 o2 g2
        have O2 := hide o2
        have B2 := hide (((HB.out.alloc HB.out.size (.cells #[.string T] 9))).grown g2 (by have := HB.out.size; simp; omega) (fun j hj => by have := GE.out j hj; omega))
        have R2 := hide ((HR.out.kept ((Below.refl _ _).alloc (Nat.le_refl _) (.cells #[.string T] 9))).grown g2 (fun j hj => by have := GE.out j hj; omega))
        clear o2 g2 hc1 hb2 O1 hct
        go_wp2
        go_roundw
        case rel =>
          refine ⟨k + 1, int_eq (by have := HF.out; omega), by have := HF.out; omega, ?_, R2.out, B2.out⟩
          rw [pcs_succ, ← hpc.out]
          exact O2.out
        case measure => simp [intOf]; omega
      · have hcc : f + 16 ≤ c := by omega
        have t2 : ¬ (S.size : Int) - (f : Int) < 16 := by omega
        have t4 : (16 : Int) ≤ (S.size : Int) - (f : Int) := by omega
        go_wp2_with fail
        refine (cutBytes_any w.heap.size S.size c f 16 _ (by omega) (by omega)).mono ?_
        rintro e' w1 ⟨rfl, rfl⟩
        have hct := HR.out.cut (f := f) (n := 16) (bs_lt S) (by rw [HLen.out]; omega)
        have hpc : Hid (ofN (((bs S).drop f).take 16) = pc S k) := by
          show _ = _
          unfold pc
          rw [HF.out]
        generalize ofN (((bs S).drop f).take 16) = T at hct hpc
        have O1 := hide (O.out.alloc (.cells #[.string T] 9))
        have hb2 : w.heap.size + 1 ≤ (wr.alloc (.cells #[.string T] 9)).heap.size := by simp; omega
        have hc1 : (wr.alloc (.cells #[.string T] 9)).cell? ⟨wr.heap.size, 0, none⟩ = some (.string T) := by rw [cell_of_row _ wr.heap.size 0 _ _ _ (heap_alloc_new wr _)]; rfl
        go_wp2_with (at_builtin; refine wpList_append_text1 rfl _ _ rfl (w.heap.size + 1) _ k (pcs S k) T rfl O1.out wr.heap.size rfl hc1 (by omega) hb2 ?_)
        intro v' w2 o2 g2
        have O2 := hide o2
        have B2 := hide (((HB.out.alloc HB.out.size (.cells #[.string T] 9))).grown g2 (by have := HB.out.size; simp; omega) (fun j hj => by have := GE.out j hj; omega))
        have R2 := hide ((HR.out.kept ((Below.refl _ _).alloc (Nat.le_refl _) (.cells #[.string T] 9))).grown g2 (fun j hj => by have := GE.out j hj; omega))
        clear o2 g2 hc1 hb2 O1 hct
        go_wp2
        go_roundw
        case rel =>
          refine ⟨k + 1, int_eq (by have := HF.out; omega), by have := HF.out; omega, ?_, R2.out, B2.out⟩
          rw [pcs_succ, ← hpc.out]
          exact O2.out
        case measure => simp [intOf]; omega
    · obtain ⟨f, hf⟩ : ∃ f, f = 16 * k := ⟨_, rfl⟩
      have HF := hide hf
      have hmany : Hid (many S = k) := by
        show (S.size + 15) / 16 = k
        omega
      rw [← hf] at hlt2 hk ⊢
      clear hf
      have t1 : ¬ (f : Int) < (S.size : Int) := by omega
      go_wp2
      go_ret2
      refine ⟨_, rfl, ?_, HB.out⟩
      rw [hmany.out]
      have := O.out
      show World.ownsRow _ _ _ _ _ (pcs S k).length _
      rw [pcs_length]
      exact ownsRow_less this (by omega)
end Go.Proofs.YtbgadbokejaomaaGreatDoor

namespace Go.Proofs.YtbgadbokejaomaaGreatDoor
open Go.RowKit

theorem Own.shape {w : World} {base : Nat} {v : Value} {xs : List Int} (h : Own w base v xs) : ∃ a n c, v = .slice a n c := by
  rcases h.2 with ⟨rfl, _⟩ | ⟨g, cap, cur, rfl, _⟩
  · exact ⟨_, _, _, rfl⟩
  · exact ⟨_, _, _, rfl⟩

/-- 'make([][]int, n)': n rows of nothing of the call's own, in the next block. -/
theorem wpList_make_rows {w : World} {ops : Array Oper} {rest : List Oper} {o : Oper} {a : Act} {Q : Exit → Act → World → Prop} (hg : o.guard = none) (l c : Operand) (hop : o.op = Op.makeSlice 115 l c)
    (L C : Int) (n : Nat) (hl : a.eval l = .int .i64 L) (hc : a.eval c = .int .i64 C) (hL : L = (n : Int)) (hC : C = (n : Int)) (hn : n ≤ 1048576)
    (h : ∀ w', MatV w' w.heap.size w'.heap.size (.slice (some ⟨w.heap.size, 0, none⟩) n n) (List.replicate n nilRow) (List.replicate n []) → w.grownBy w' none → wpList Tryz.prog ops Q rest (a.put o.dst (.slice (some ⟨w.heap.size, 0, none⟩) n n)) w') : wpList Tryz.prog ops Q (o :: rest) a w := by
  obtain ⟨i0, hi, hz0, hz1, hz2⟩ := info_parts infoRow
  refine wpList_make_full w hg l c _ hop w.heap.size 27 i0 (.slice none 0 0) 1 Tryz.underlying115 hi hz0 hz1 _ _ L C n hl hc hL hC (by rw [hz2]; omega) (by unfold maxLen; omega) (Nat.le_refl _) ?_
  intro w' ho hg'
  refine h w' ?_ hg'
  have e : (madeCells (Value.slice none 0 0).cells (n * 1)).toList = List.replicate n nilRow := by
    rw [Nat.mul_one]; exact toList_madeCells_one _ n
  rw [e] at ho
  have g1 : ∀ i, i < n → (List.replicate n nilRow).getD i nilRow = nilRow := fun i hi => by simp [List.getD_eq_getElem?_getD, hi]
  refine ⟨by simp, by rw [List.length_replicate]; exact ho, ?_, fun k hk => (World.ownsRow.lt ho k hk).2, ?_, ?_⟩
  · intro i hi
    rw [List.length_replicate] at hi
    rw [g1 i hi]
    have g2 : (List.replicate n ([] : List Int)).getD i [] = [] := by simp [List.getD_eq_getElem?_getD, hi]
    rw [g2]
    exact World.ownsRow_nil _ _ _ _
  · intro i k hi hk
    rw [List.length_replicate] at hi
    rw [g1 i hi] at hk
    simp [Value.ownBlock] at hk
  · intro i j hi hj _
    rw [List.length_replicate] at hi
    rw [g1 i hi]
    exact .inl rfl

/-- The first k rows; nothing in the others. -/
def toTo (m : List (List Int)) (k : Nat) : List (List Int) := m.take k ++ List.replicate (m.length - k) []
theorem toTo_length (m : List (List Int)) (k : Nat) (h : k ≤ m.length) : (toTo m k).length = m.length := by simp [toTo]; omega
theorem toTo_step (m : List (List Int)) (k : Nat) (h : k < m.length) : (toTo m k).set k (m.getD k []) = toTo m (k + 1) := by
  have e1 : (m.take k).length = k := by simp; omega
  unfold toTo
  rw [List.set_append_right _ _ (by omega), e1, Nat.sub_self]
  obtain ⟨j, hm⟩ : ∃ j, m.length - k = j + 1 := ⟨m.length - k - 1, by omega⟩
  have hm2 : m.length - (k + 1) = j := by omega
  rw [hm, hm2, List.replicate_succ, List.set_cons_zero, List.take_succ_eq_append_getElem h, List.append_assoc]
  simp only [List.getD_eq_getElem?_getD, List.getElem?_eq_getElem h, Option.getD_some, List.singleton_append]
theorem toTo_end (m : List (List Int)) : toTo m m.length = m := by simp [toTo]
theorem toTo_zero (m : List (List Int)) : toTo m 0 = List.replicate m.length [] := by simp [toTo]

theorem Rd.drewN {w : World} {v : Value} {xs : List Int} (h : Rd w v xs) (n : Nat) : Rd (w.drewN n) v xs := h.below (below_drewN' n)

end Go.Proofs.YtbgadbokejaomaaGreatDoor

namespace Go.Proofs.YtbgadbokejaomaaGreatDoor
open Go.RowKit
namespace Gf

theorem isE_yes (a : Int) (w : World) (ha0 : 0 ≤ a) (ha : a < 256) :
    Calls Tryz.prog 219 #[.int .i64 a] w fun e w' => e = .returned (.bool true) ∧ w = w' := by
  go_enter Tryz.func219, Tryz.ntmps219
  go_wp2
  go_ret
  exact ⟨rfl, rfl⟩
theorem l1In_yes (a lo hi : Int) (w : World) (ha0 : lo ≤ a) (ha : a ≤ hi) :
    Calls Tryz.prog 57 #[.int .i64 a, .int .i64 lo, .int .i64 hi] w fun e w' => e = .returned (.bool true) ∧ w = w' := by
  go_enter Tryz.func57, Tryz.ntmps57
  go_wp2
  go_ret
  exact ⟨rfl, rfl⟩
/-- An owned slice that is not empty, opened. -/
theorem Own.open {w : World} {base : Nat} {v : Value} {xs : List Int} (h : Own w base v xs) (hn : 0 < xs.length) :
    ∃ g cap, v = .slice (some ⟨g, 0, none⟩) xs.length cap ∧ base ≤ g ∧ g < w.heap.size ∧ ∀ i, i < xs.length → w.cell? ⟨g, i, none⟩ = some (.int .i64 (xs.getD i 0)) := by
  rcases h.2 with ⟨_, h0⟩ | ⟨g, cap, cur, rfl, hb, hg, _⟩
  · omega
  · refine ⟨g, cap, rfl, hb, (Array.getElem?_eq_some_iff.1 hg).1, fun i hi => ?_⟩
    rw [World.ownsRow.cellAt h i (by omega)]
    simp [hi]

def elOk (x : Int) : Bool := decide (0 ≤ x ∧ x ≤ 255)
theorem ret_bool {a b : Bool} (h : a = b) : Ending.returned (.bool a) = .returned (.bool b) := by rw [h]
theorem elOk_iff {x : Int} : elOk x = true ↔ 0 ≤ x ∧ x ≤ 255 := by simp [elOk]
theorem elOk_no {x : Int} : elOk x = false ↔ ¬ (0 ≤ x ∧ x ≤ 255) := by simp [elOk]
theorem all_of_getD {xs : List Int} : (xs.all elOk = true) ↔ ∀ i, i < xs.length → elOk (xs.getD i 0) = true := by
  rw [List.all_eq_true]
  constructor
  · intro h i hi
    rw [List.getD_eq_getElem?_getD, List.getElem?_eq_getElem hi, Option.getD_some]
    exact h _ (List.getElem_mem hi)
  · intro h x hx
    obtain ⟨i, hi, rfl⟩ := List.mem_iff_getElem.1 hx
    have := h i hi
    rwa [List.getD_eq_getElem?_getD, List.getElem?_eq_getElem hi, Option.getD_some] at this
theorem all_bad {xs : List Int} {k : Nat} (hk : k < xs.length) (h : elOk (xs.getD k 0) = false) : xs.all elOk = false := by
  cases hh : xs.all elOk with
  | false => rfl
  | true => rw [all_of_getD.1 hh k hk] at h; cases h
/-- An element's outcome, in the walk's own form. -/
theorem elOk_tests {z : Int} (h : elOk z = true) : 0 ≤ z ∧ z < 256 := by have := elOk_iff.1 h; omega

set_option maxRecDepth 100000 in
theorem isE_calls (a : Int) (w : World) :
    Calls Tryz.prog 219 #[.int .i64 a] w fun e w' => e = .returned (.bool (elOk a)) ∧ w = w' := by
  by_cases h : 0 ≤ a
  · by_cases h2 : a < 256
    · have e : elOk a = true := elOk_iff.2 (by omega)
      rw [e]
      exact isE_yes a w h h2
    · have e : elOk a = false := elOk_no.2 (by omega)
      rw [e]
      go_enter Tryz.func219, Tryz.ntmps219
      go_wp2
      go_ret
      exact ⟨rfl, rfl⟩
  · have e : elOk a = false := elOk_no.2 (by omega)
    rw [e]
    go_enter Tryz.func219, Tryz.ntmps219
    go_wp2
    go_ret
    exact ⟨rfl, rfl⟩
set_option maxRecDepth 100000 in
set_option maxHeartbeats 400000 in
theorem areElements_calls (v : Value) (xs : List Int) (w : World) (h : Rd w v xs) :
    Calls Tryz.prog 190 #[v] w fun e w' => e = .returned (.bool (xs.all elOk)) ∧ w = w' := by
  obtain ⟨a, cap, rfl, h1, h2, h3⟩ := h
  have hm : xs.length ≤ maxLen := by omega
  unfold maxLen at hm
  have H := hide h3
  clear h3 h2
  go_enter Tryz.func190, Tryz.ntmps190
  go_wp2
  go_loop [7] (fun vi => ∃ k : Nat, k ≤ xs.length ∧ vi = .int .i64 k ∧ ∀ i, i < k → elOk (xs.getD i 0) = true) (fun vi => xs.length - (intOf vi).toNat)
  case atStart => exact ⟨0, Nat.zero_le _, rfl, fun i hi => by omega⟩
  case round =>
    obtain ⟨k, hk, rfl, hall⟩ := hrel
    have A := hide hall
    clear hall
    by_cases hlt : k < xs.length
    · rcases H.out with h3 | ⟨b, off, rfl, hbs, hc⟩
      · subst h3; simp at hlt
      have hc1 := hc k hlt
      clear hc
      obtain ⟨z, hz⟩ : ∃ z, z = xs.getD k 0 := ⟨_, rfl⟩
      rw [← hz] at hc1
      have Z := hide hz
      clear hz
      cases hel : elOk z with
      | true =>
        go_wp2_with (go_at_call 219; refine (isE_calls _ _).mono ?_; rintro e w' ⟨rfl, rfl⟩)
        go_round
        case rel =>
          refine ⟨k + 1, by omega, by go_num, fun i hi => ?_⟩
          by_cases e : i = k
          · subst e; rw [← Z.out]; exact hel
          · exact A.out i (by omega)
        case measure => simp [intOf]; omega
      | false =>
        go_wp2_with (go_at_call 219; refine (isE_calls _ _).mono ?_; rintro e w' ⟨rfl, rfl⟩)
        go_ret
        exact ⟨ret_bool (by rw [all_bad hlt (by rw [← Z.out]; exact hel)]), rfl⟩
    · obtain rfl : k = xs.length := by omega
      go_wp2
      go_ret
      exact ⟨ret_bool (by rw [all_of_getD.2 A.out]), rfl⟩
end Gf
end Go.Proofs.YtbgadbokejaomaaGreatDoor

namespace Go.Proofs.YtbgadbokejaomaaGreatDoor
open Go.RowKit

theorem all_yes {α : Type} {l : List α} {d : α} {p : α → Bool} (h : ∀ i, i < l.length → p (l.getD i d) = true) : l.all p = true := by
  rw [List.all_eq_true]
  intro x hx
  obtain ⟨i, hi, rfl⟩ := List.mem_iff_getElem.1 hx
  have := h i hi
  rwa [List.getD_eq_getElem?_getD, List.getElem?_eq_getElem hi, Option.getD_some] at this
theorem all_at {α : Type} {l : List α} {d : α} {p : α → Bool} (h : l.all p = true) (i : Nat) (hi : i < l.length) : p (l.getD i d) = true := by
  rw [List.getD_eq_getElem?_getD, List.getElem?_eq_getElem hi, Option.getD_some]
  exact List.all_eq_true.1 h _ (List.getElem_mem hi)
theorem all_no {α : Type} {l : List α} {d : α} {p : α → Bool} {k : Nat} (hk : k < l.length) (h : p (l.getD k d) = false) : l.all p = false := by
  cases hh : l.all p with
  | false => rfl
  | true => rw [all_at hh k hk] at h; cases h
theorem Rd.row {w : World} {a : Option Addr} {n cap : Nat} {xs : List Int} (h : Rd w (.slice a n cap) xs) (i : Nat) (hi : i < xs.length) :
    ∃ b off u, a = some ⟨b, off, none⟩ ∧ w.cell? ⟨b, off + i, none⟩ = some u ∧ u = .int .i64 (xs.getD i 0) := by
  obtain ⟨a', cap', hv, _, _, h3⟩ := h
  simp only [Value.slice.injEq] at hv
  obtain ⟨rfl, rfl, rfl⟩ := hv
  rcases h3 with h3 | ⟨b, off, rfl, hlt, hc⟩
  · subst h3; simp at hi
  · exact ⟨b, off, _, rfl, hc i hi, rfl⟩

set_option maxRecDepth 100000 in
theorem isSide_calls (n : Int) (w : World) :
    Calls Tryz.prog 252 #[.int .i64 n] w fun e w' => e = .returned (.bool (decide (1 ≤ n ∧ n ≤ 8))) ∧ w = w' := by
  by_cases h : 1 ≤ n
  · by_cases h2 : n ≤ 8
    · rw [decide_eq_true ⟨h, h2⟩]
      go_enter Tryz.func252, Tryz.ntmps252
      go_wp2
      go_ret
      exact ⟨rfl, rfl⟩
    · rw [decide_eq_false (fun e => h2 e.2)]
      go_enter Tryz.func252, Tryz.ntmps252
      go_wp2
      go_ret
      exact ⟨rfl, rfl⟩
  · rw [decide_eq_false (fun e => h e.1)]
    go_enter Tryz.func252, Tryz.ntmps252
    go_wp2
    go_ret
    exact ⟨rfl, rfl⟩
set_option maxRecDepth 100000 in
theorem isLong_calls (u : Value) (r : List Int) (n : Int) (g : Nat) (w : World) (h : Rd w u r) (hg : w.cell? ⟨g, 0, none⟩ = some (.int .i64 n)) :
    Calls Tryz.prog 226 #[u, .pointer (some ⟨g, 0, none⟩)] w fun e w' => e = .returned (.bool ((fun r : List Int => decide ((r.length : Int) = n)) r)) ∧ w = w' := by
  obtain ⟨a, cap, rfl, h1, h2, h3⟩ := h
  clear h3 h2 h1
  by_cases h : (r.length : Int) = n
  · simp only [decide_eq_true h]
    have e : ((r.length : Int) == n) = true := by simp [h]
    have H := hide h
    clear h
    go_enter Tryz.func226, Tryz.ntmps226
    go_wp2
    go_ret
    exact ⟨rfl, rfl⟩
  · simp only [decide_eq_false h]
    have e : ((r.length : Int) == n) = false := by simp [h]
    go_enter Tryz.func226, Tryz.ntmps226
    go_wp2
    go_ret
    exact ⟨rfl, rfl⟩
theorem areEls_calls (v : Value) (xs : List Int) (w : World) (h : Rd w v xs) :
    Calls Tryz.prog 190 #[v] w fun e w' => e = .returned (.bool ((fun r : List Int => r.all Gf.elOk) xs)) ∧ w = w' := Gf.areElements_calls v xs w h
set_option maxRecDepth 100000 in
set_option maxHeartbeats 800000 in
theorem allLong_calls (v : Value) (m : List (List Int)) (n : Int) (g : Nat) (w : World) (h : RdM w v m) (hg : w.cell? ⟨g, 0, none⟩ = some (.int .i64 n)) :
    Calls Tryz.prog 188 #[v, .func (.func 226) #[] #[.pointer (some ⟨g, 0, none⟩)]] w fun e w' => e = .returned (.bool (m.all (fun r : List Int => decide ((r.length : Int) = n)))) ∧ w = w' := by
  have R := hide h
  obtain ⟨a, cap, rfl, h1, h2, h3⟩ := h
  have hm : m.length ≤ maxLen := by omega
  unfold maxLen at hm
  obtain ⟨p, hp⟩ : ∃ p, p = (fun r : List Int => decide ((r.length : Int) = n)) := ⟨_, rfl⟩
  rw [← hp]
  have HP := hide hp
  clear h3 h2 h1 hp
  go_enter Tryz.func188, Tryz.ntmps188
  go_wp2
  go_loop [9] (fun vi => ∃ k : Nat, k ≤ m.length ∧ vi = .int .i64 k ∧ ∀ i, i < k → p (m.getD i []) = true) (fun vi => m.length - (intOf vi).toNat)
  case atStart => exact ⟨0, Nat.zero_le _, rfl, fun i hi => by omega⟩
  case round =>
    obtain ⟨k, hk, rfl, hall⟩ := hrel
    have A := hide hall
    clear hall
    by_cases hlt : k < m.length
    · have hlt' : (k : Int) < (m.length : Int) := by omega
      obtain ⟨b, off, u, rfl, hc1, hu⟩ := R.out.row k hlt
      obtain ⟨r, hr⟩ : ∃ r, r = m.getD k [] := ⟨_, rfl⟩
      rw [← hr] at hu
      have U := hide hu
      have Hr := hide hr
      clear hu hr
      obtain ⟨q, hq⟩ : ∃ q, q = p r := ⟨_, rfl⟩
      have Q := hide hq
      have HC : Hid (Calls Tryz.prog 226 #[u, .pointer (some ⟨g, 0, none⟩)] w fun e w' => e = .returned (.bool q) ∧ w = w') := by
        rw [hq, HP.out]
        exact isLong_calls _ r _ _ _ U.out hg
      cases q with
      | true =>
        clear hq
        go_wp2_with (go_at_call 226; refine HC.out.mono ?_; rintro e w' ⟨rfl, rfl⟩)
        go_round
        case rel =>
          refine ⟨k + 1, by omega, by go_num, fun i hi => ?_⟩
          by_cases e : i = k
          · subst e; rw [← Hr.out, ← Q.out]
          · exact A.out i (by omega)
        case measure => simp [intOf]; omega
      | false =>
        clear hq
        go_wp2_with (go_at_call 226; refine HC.out.mono ?_; rintro e w' ⟨rfl, rfl⟩)
        go_ret
        exact ⟨Gf.ret_bool (all_no hlt (by rw [← Hr.out, ← Q.out])).symm, rfl⟩
    · obtain rfl : k = m.length := by omega
      go_wp2
      go_ret
      exact ⟨Gf.ret_bool (all_yes A.out).symm, rfl⟩
set_option maxRecDepth 100000 in
set_option maxHeartbeats 800000 in
theorem allEls_calls (v : Value) (m : List (List Int))  (w : World) (h : RdM w v m) :
    Calls Tryz.prog 188 #[v, .func (.func 190) #[] #[]] w fun e w' => e = .returned (.bool (m.all (fun r : List Int => r.all Gf.elOk))) ∧ w = w' := by
  have R := hide h
  obtain ⟨a, cap, rfl, h1, h2, h3⟩ := h
  have hm : m.length ≤ maxLen := by omega
  unfold maxLen at hm
  obtain ⟨p, hp⟩ : ∃ p, p = (fun r : List Int => r.all Gf.elOk) := ⟨_, rfl⟩
  rw [← hp]
  have HP := hide hp
  clear h3 h2 h1 hp
  go_enter Tryz.func188, Tryz.ntmps188
  go_wp2
  go_loop [9] (fun vi => ∃ k : Nat, k ≤ m.length ∧ vi = .int .i64 k ∧ ∀ i, i < k → p (m.getD i []) = true) (fun vi => m.length - (intOf vi).toNat)
  case atStart => exact ⟨0, Nat.zero_le _, rfl, fun i hi => by omega⟩
  case round =>
    obtain ⟨k, hk, rfl, hall⟩ := hrel
    have A := hide hall
    clear hall
    by_cases hlt : k < m.length
    · have hlt' : (k : Int) < (m.length : Int) := by omega
      obtain ⟨b, off, u, rfl, hc1, hu⟩ := R.out.row k hlt
      obtain ⟨r, hr⟩ : ∃ r, r = m.getD k [] := ⟨_, rfl⟩
      rw [← hr] at hu
      have U := hide hu
      have Hr := hide hr
      clear hu hr
      obtain ⟨q, hq⟩ : ∃ q, q = p r := ⟨_, rfl⟩
      have Q := hide hq
      have HC : Hid (Calls Tryz.prog 190 #[u] w fun e w' => e = .returned (.bool q) ∧ w = w') := by
        rw [hq, HP.out]
        exact areEls_calls _ r _ U.out
      cases q with
      | true =>
        clear hq
        go_wp2_with (go_at_call 190; refine HC.out.mono ?_; rintro e w' ⟨rfl, rfl⟩)
        go_round
        case rel =>
          refine ⟨k + 1, by omega, by go_num, fun i hi => ?_⟩
          by_cases e : i = k
          · subst e; rw [← Hr.out, ← Q.out]
          · exact A.out i (by omega)
        case measure => simp [intOf]; omega
      | false =>
        clear hq
        go_wp2_with (go_at_call 190; refine HC.out.mono ?_; rintro e w' ⟨rfl, rfl⟩)
        go_ret
        exact ⟨Gf.ret_bool (all_no hlt (by rw [← Hr.out, ← Q.out])).symm, rfl⟩
    · obtain rfl : k = m.length := by omega
      go_wp2
      go_ret
      exact ⟨Gf.ret_bool (all_yes A.out).symm, rfl⟩

set_option maxRecDepth 100000 in
theorem areAllLong_calls (v : Value) (m : List (List Int)) (n : Int) (w : World) (h : RdM w v m) :
    Calls Tryz.prog 193 #[v, .int .i64 n] w fun e w' => e = .returned (.bool (m.all fun r : List Int => decide ((r.length : Int) = n))) ∧ Below w.heap.size w w' := by
  have R := hide h
  have S : ∃ a n c, v = .slice a n c := by
    obtain ⟨a, cap, rfl, _⟩ := h
    exact ⟨_, _, _, rfl⟩
  obtain ⟨a, k, c, rfl⟩ := S
  clear h
  go_enter Tryz.func193, Tryz.ntmps193
  go_wp2_with fail
  refine (allLong_calls _ m n _ _ (R.out.below ((Below.refl _ _).alloc (Nat.le_refl _) _)) (World.cell?_alloc_at _ _ _ _ rfl)).mono ?_
  rintro e w' ⟨rfl, rfl⟩
  go_wp2
  go_ret
  exact ⟨rfl, (Below.refl _ _).alloc (Nat.le_refl _) _⟩

end Go.Proofs.YtbgadbokejaomaaGreatDoor

namespace Go.Proofs.YtbgadbokejaomaaGreatDoor
open Go.RowKit

/-- All are elements, and no two are alike. -/
def unl (l : List Int) : Bool := decide (l.Pairwise (· ≠ ·)) && l.all Gf.elOk
theorem unl_nil : unl [] = true := by simp [unl]
theorem unl_snoc (p : List Int) (a : Int) : unl (p ++ [a]) = (unl p && (Gf.elOk a && !p.contains a)) := by
  unfold unl
  rw [List.all_append]
  have e : decide ((p ++ [a]).Pairwise (· ≠ ·)) = (decide (p.Pairwise (· ≠ ·)) && !p.contains a) := by
    rw [Bool.eq_iff_iff]
    simp only [decide_eq_true_eq, Bool.and_eq_true, List.pairwise_append, Bool.not_eq_true', List.contains_eq_mem, decide_eq_false_iff_not]
    constructor
    · rintro ⟨h1, _, h3⟩
      exact ⟨h1, fun hm => h3 a hm a (by simp) rfl⟩
    · rintro ⟨h1, h2⟩
      refine ⟨h1, by simp, fun x hx y hy => ?_⟩
      simp at hy
      subst hy
      intro e
      subst e
      exact h2 hx
  rw [e]
  simp only [List.all_cons, List.all_nil, Bool.and_true]
  cases decide (p.Pairwise (· ≠ ·)) <;> cases p.contains a <;> cases p.all Gf.elOk <;> cases Gf.elOk a <;> rfl
theorem unl_app {p : List Int} (h : unl p = false) (r : List Int) : unl (p ++ r) = false := by
  cases e : unl (p ++ r) with
  | false => rfl
  | true =>
    unfold unl at e h
    simp only [Bool.and_eq_true, decide_eq_true_eq, List.pairwise_append, List.all_append] at e
    rw [decide_eq_true e.1.1, e.2.1] at h
    cases h
theorem unl_els {p : List Int} (h : unl p = true) : p.all Gf.elOk = true := by
  unfold unl at h
  simp only [Bool.and_eq_true] at h
  exact h.2
theorem take_snocM {α : Type} (l : List α) (d : α) (k : Nat) (h : k < l.length) : l.take (k + 1) = l.take k ++ [l.getD k d] := by
  rw [List.take_succ_eq_append_getElem h, List.getD_eq_getElem?_getD, List.getElem?_eq_getElem h, Option.getD_some]
theorem elOk_facts {a : Int} (h : Gf.elOk a = true) : 0 ≤ a ∧ a < 256 := by
  simp only [Gf.elOk, decide_eq_true_eq] at h
  omega
/-- Which of the 256 have been seen. -/
def seenL (p : List Int) : List Value := (List.range 256).map fun a : Nat => Value.bool (p.contains (a : Int))
theorem seenL_nil : seenL [] = List.replicate 256 (Value.bool false) := by
  rw [List.eq_replicate_iff]
  simp [seenL]
theorem seenL_get (p : List Int) (a : Nat) (h : a < 256) : (seenL p)[a]? = some (.bool (p.contains (a : Int))) := by
  simp [seenL, h]
theorem seenL_set (p : List Int) (a : Nat) (h : a < 256) : (seenL p).set a (.bool true) = seenL (p ++ [(a : Int)]) := by
  unfold seenL
  apply List.ext_getElem?
  intro i
  rw [List.getElem?_set]
  by_cases hi : i < 256
  · by_cases e : a = i
    · subst e; simp [hi]
    · rw [if_neg e]
      simp only [List.getElem?_map, List.getElem?_range hi, Option.map_some, Option.some.injEq, Value.bool.injEq, List.contains_eq_mem, List.mem_append, List.mem_singleton]
      have : ¬ ((i : Int) = (a : Int)) := by omega
      simp [this]
  · have : ¬ (a = i) := by omega
    rw [if_neg this]
    simp [hi]
/-- Cauchy's rows. -/
def cauRow (a : Int) (ys : List Int) : List Int := ys.map fun b => ((Gf.inv (a.toNat ^^^ b.toNat) : Nat) : Int)
def cauM (xs ys : List Int) : List (List Int) := xs.map fun a => cauRow a ys
end Go.Proofs.YtbgadbokejaomaaGreatDoor

namespace Go.Proofs.YtbgadbokejaomaaGreatDoor
open Go.RowKit
namespace Gf

theorem pw_step {f x y o T : Nat} (hy : y < 2 ^ f) (hf : f ≤ 17) (ho : o < 256) (hx : x < 256) (hp : 0 < y) (he : pw f x y o = T) :
    ∃ f', pw f' (mul x x) (y / 2) (if y % 2 = 1 then mul o x else o) = T ∧ y / 2 < 2 ^ f' ∧ f' ≤ 17 ∧ mul x x < 256 ∧ (if y % 2 = 1 then mul o x else o) < 256 := by
  cases f with
  | zero => simp at hy; omega
  | succ f =>
    refine ⟨f, he, by rw [Nat.pow_succ] at hy; omega, by omega, mul_lt hx, ?_⟩
    split
    · exact mul_lt ho
    · exact ho
theorem two_pow_17 {f y : Nat} (hf : f ≤ 17) (hy : y < 2 ^ f) : y < 131072 := by
  have : 2 ^ f ≤ 2 ^ 17 := Nat.pow_le_pow_right (by omega) hf
  omega

set_option maxRecDepth 100000 in
set_option maxHeartbeats 400000 in
theorem powE_calls (a n : Int) (w : World) (hT : Tab w) (ha0 : 0 ≤ a) (ha : a < 256) (hn0 : 0 ≤ n) (hn : n ≤ 100000) :
    Calls Tryz.prog 263 #[.int .i64 a, .int .i64 n] w fun e w' => e = .returned (.int .i64 (pow a.toNat n.toNat : Nat)) ∧ w = w' := by
  obtain ⟨A, rfl⟩ := Int.eq_ofNat_of_zero_le ha0
  obtain ⟨B, rfl⟩ := Int.eq_ofNat_of_zero_le hn0
  simp only [Int.toNat_natCast]
  have HT : Hid (Tab w) := hT
  clear hT
  go_enter Tryz.func263, Tryz.ntmps263
  go_wp2
  go_loop [1, 5, 6] (fun vn vo vx => ∃ f x y o : Nat, x < 256 ∧ y < 2 ^ f ∧ f ≤ 17 ∧ o < 256 ∧ vx = .int .i64 x ∧ vn = .int .i64 y ∧ vo = .int .i64 o ∧ pw f x y o = pow A B) (fun vn _ _ => (intOf vn).toNat)
  case atStart => exact ⟨17, A, B, 1, by omega, by omega, by omega, by omega, rfl, rfl, rfl, rfl⟩
  case round =>
    obtain ⟨f, x, y, o, hx, hy, hf, ho, rfl, rfl, rfl, he⟩ := hrel
    have He : Hid (pw f x y o = pow A B) := he
    clear he
    have hy32 := two_pow_17 hf hy
    by_cases hlt : 0 < y
    · have hlt' : (0 : Int) < (y : Int) := by omega
      obtain ⟨f', k1, k2, k3, k4, k5⟩ := pw_step hy hf ho hx hlt He.out
      by_cases hodd : y % 2 = 1
      · rw [if_pos hodd] at k1 k5
        have K : Hid (pw f' (mul x x) (y / 2) (mul o x) = pow A B ∧ y / 2 < 2 ^ f' ∧ f' ≤ 17 ∧ mul x x < 256 ∧ mul o x < 256) := ⟨k1, k2, k3, k4, k5⟩
        clear k1 k2 k3 k4 k5
        have hb : ((y : Int) % 2 == 1) = true := by simp; omega
        go_wp2_with (go_at_call 261; refine (mulE_calls _ _ _ HT.out (by omega) (by omega) (by omega) (by omega)).mono ?_; rintro e w' ⟨rfl, rfl⟩)
        obtain ⟨k1, k2, k3, k4, k5⟩ := K.out
        exact ⟨⟨f', mul x x, y / 2, mul o x, k4, k2, k3, k5, rfl, rfl, rfl, k1⟩, by simp [intOf]; omega⟩
      · rw [if_neg hodd] at k1 k5
        have K : Hid (pw f' (mul x x) (y / 2) o = pow A B ∧ y / 2 < 2 ^ f' ∧ f' ≤ 17 ∧ mul x x < 256 ∧ o < 256) := ⟨k1, k2, k3, k4, k5⟩
        clear k1 k2 k3 k4 k5
        have hb : ((y : Int) % 2 == 1) = false := by simp; omega
        go_wp2_with (go_at_call 261; refine (mulE_calls _ _ _ HT.out (by omega) (by omega) (by omega) (by omega)).mono ?_; rintro e w' ⟨rfl, rfl⟩)
        obtain ⟨k1, k2, k3, k4, k5⟩ := K.out
        exact ⟨⟨f', mul x x, y / 2, o, k4, k2, k3, k5, rfl, rfl, rfl, k1⟩, by simp [intOf]; omega⟩
    · obtain rfl : y = 0 := by omega
      go_wp2
      go_ret
      exact ⟨ret_int (by have := He.out; rw [pw_zero] at this; rw [this]), rfl⟩

set_option maxRecDepth 100000 in
set_option maxHeartbeats 400000 in
theorem l1Pow_calls (a n : Int) (w : World) (ha0 : 0 ≤ a) (ha : a < 256) (hn0 : 0 ≤ n) (hn : n ≤ 100000) :
    Calls Tryz.prog 258 #[.int .i64 a, .int .i64 n] w fun e w' => e = .returned (.int .i64 (pow a.toNat n.toNat : Nat)) ∧ w = w' := by
  obtain ⟨A, rfl⟩ := Int.eq_ofNat_of_zero_le ha0
  obtain ⟨B, rfl⟩ := Int.eq_ofNat_of_zero_le hn0
  simp only [Int.toNat_natCast]
  go_enter Tryz.func258, Tryz.ntmps258
  go_wp2
  go_loop [0, 1, 5] (fun vx vn vo => ∃ f x y o : Nat, x < 256 ∧ y < 2 ^ f ∧ f ≤ 17 ∧ o < 256 ∧ vx = .int .i64 x ∧ vn = .int .i64 y ∧ vo = .int .i64 o ∧ pw f x y o = pow A B) (fun _ vn _ => (intOf vn).toNat)
  case atStart => exact ⟨17, A, B, 1, by omega, by omega, by omega, by omega, rfl, rfl, rfl, rfl⟩
  case round =>
    obtain ⟨f, x, y, o, hx, hy, hf, ho, rfl, rfl, rfl, he⟩ := hrel
    have He : Hid (pw f x y o = pow A B) := he
    clear he
    have hy32 := two_pow_17 hf hy
    by_cases hlt : 0 < y
    · have hlt' : (0 : Int) < (y : Int) := by omega
      obtain ⟨f', k1, k2, k3, k4, k5⟩ := pw_step hy hf ho hx hlt He.out
      have ha1 := i64_and1 y (by omega)
      by_cases hodd : y % 2 = 1
      · rw [if_pos hodd] at k1 k5
        have K : Hid (pw f' (mul x x) (y / 2) (mul o x) = pow A B ∧ y / 2 < 2 ^ f' ∧ f' ≤ 17 ∧ mul x x < 256 ∧ mul o x < 256) := ⟨k1, k2, k3, k4, k5⟩
        clear k1 k2 k3 k4 k5
        have hb : (bits .and .i64 (y : Int) 1 == 1) = true := by rw [ha1]; simp; omega
        clear ha1
        go_wp2_with (go_at_call 233; refine (l1Mul_calls _ _ _ (by omega) (by omega) (by omega) (by omega)).mono ?_; rintro e w' ⟨rfl, rfl⟩)
        obtain ⟨k1, k2, k3, k4, k5⟩ := K.out
        exact ⟨⟨f', mul x x, y / 2, mul o x, k4, k2, k3, k5, rfl, rfl, rfl, k1⟩, by simp [intOf]; omega⟩
      · rw [if_neg hodd] at k1 k5
        have K : Hid (pw f' (mul x x) (y / 2) o = pow A B ∧ y / 2 < 2 ^ f' ∧ f' ≤ 17 ∧ mul x x < 256 ∧ o < 256) := ⟨k1, k2, k3, k4, k5⟩
        clear k1 k2 k3 k4 k5
        have hb : (bits .and .i64 (y : Int) 1 == 1) = false := by rw [ha1]; simp; omega
        clear ha1
        go_wp2_with (go_at_call 233; refine (l1Mul_calls _ _ _ (by omega) (by omega) (by omega) (by omega)).mono ?_; rintro e w' ⟨rfl, rfl⟩)
        obtain ⟨k1, k2, k3, k4, k5⟩ := K.out
        exact ⟨⟨f', mul x x, y / 2, o, k4, k2, k3, k5, rfl, rfl, rfl, k1⟩, by simp [intOf]; omega⟩
    · obtain rfl : y = 0 := by omega
      go_wp2
      go_ret
      exact ⟨ret_int (by have := He.out; rw [pw_zero] at this; rw [this]), rfl⟩
end Gf
end Go.Proofs.YtbgadbokejaomaaGreatDoor

namespace Go.Proofs.YtbgadbokejaomaaGreatDoor
open Go.RowKit
namespace Gf

theorem tab_setCell {B : Nat} {w w' : World} (hT : Tab w) (h0 : 1 < B) (hb : Below B w w') : Tab w' := fun k hk => (hb.cell (p := ⟨1, k, none⟩) h0).trans (hT k hk)
theorem tab_pos {w : World} (hT : Tab w) : 1 < w.heap.size := by
  have h := hT 0 (by decide)
  unfold World.cell? at h
  cases hh : w.heap[1]? with
  | none => simp [hh] at h
  | some o => exact (Array.getElem?_eq_some_iff.1 hh).1
theorem Tab.below {w w' : World} (hT : Tab w) (hb : Below w.heap.size w w') : Tab w' := tab_setCell hT (tab_pos hT) hb

set_option maxRecDepth 100000 in
set_option maxHeartbeats 400000 in
theorem inv_calls (a : Int) (w : World) (hT : Tab w) (ha0 : 0 ≤ a) (ha : a < 256) :
    Calls Tryz.prog 254 #[.int .i64 a] w fun e w' => e = .returned (.int .i64 (inv a.toNat : Nat)) ∧ w = w' := by
  have HT : Hid (Tab w) := hT
  clear hT
  go_enter Tryz.func254, Tryz.ntmps254
  go_wp2_with (go_at_call 263; refine (powE_calls _ _ _ HT.out (by omega) (by omega) (by omega) (by omega)).mono ?_; rintro e w' ⟨rfl, rfl⟩)
  go_ret
  exact ⟨rfl, rfl⟩
set_option maxRecDepth 100000 in
set_option maxHeartbeats 400000 in
theorem l1Div_calls (a b : Int) (w : World) (ha0 : 0 ≤ a) (ha : a < 256) (hb0 : 0 ≤ b) (hb : b < 256) :
    Calls Tryz.prog 234 #[.int .i64 a, .int .i64 b] w fun e w' => e = .returned (.int .i64 (mul a.toNat (inv b.toNat) : Nat)) ∧ w = w' := by
  have hi := inv_lt b.toNat
  have hi2 : ((inv b.toNat : Nat) : Int) < 256 := by omega
  go_enter Tryz.func234, Tryz.ntmps234
  go_wp2_with (first | (go_at_call 258; refine (l1Pow_calls _ _ _ (by omega) (by omega) (by omega) (by omega)).mono ?_; rintro e w' ⟨rfl, rfl⟩) | (go_at_call 233; refine (l1Mul_calls _ _ _ (by omega) (by omega) (Int.natCast_nonneg _) (by exact hi2)).mono ?_; rintro e w' ⟨rfl, rfl⟩))
  go_ret
  exact ⟨rfl, rfl⟩

set_option maxRecDepth 100000 in
set_option maxHeartbeats 400000 in

theorem Tab.drewN {w : World} (h : Tab w) (n : Nat) : Tab (w.drewN n) := h.below (below_drewN' n)
theorem inv_ne {a : Nat} (ha : a < 256) (h0 : a ≠ 0) : inv a ≠ 0 := by
  intro h
  have := mul_inv a ha h0
  rw [h, mul_zero] at this
  cases this
theorem xor_lt {a b : Nat} (ha : a < 256) (hb : b < 256) : a ^^^ b < 256 := Nat.xor_lt_two_pow (n := 8) ha hb
theorem xor_zero_eq {a b : Nat} (h : a ^^^ b = 0) : a = b := by
  have := congrArg (fun t => t ^^^ b) h
  simp only [Nat.xor_assoc, Nat.xor_self, Nat.xor_zero, Nat.zero_xor] at this
  exact this
theorem mul_left (a b c : Nat) (ha : a < 256) (hb : b < 256) (hc : c < 256) : mul a (mul b c) = mul b (mul a c) := by
  rw [← mul_assoc a b c ha hb hc, mul_comm a b ha hb, mul_assoc b a c hb ha hc]

end Gf
end Go.Proofs.YtbgadbokejaomaaGreatDoor
