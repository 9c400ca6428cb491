/-
  Slices of texts: what is read, what is owned, and what the laws' own small functions do with them (copy, compare, measure, mark, look whether the marks are held), call by call. Each contract says what it asks. Slices of texts marked, and whether the marks are held, call by call. Each contract says what it asks. A frame's bytes: the model's functions, call by call. No condition but a bound on the body's length. A frame's bytes, the model's function; the law that holds the program's FrameBytes against it: call by call. No condition but a bound on the body's length. What is read of a sector's bytes: the program's functions, call by call. Each contract says what it asks. A text in pieces: the model's SplitBody and the program's, call by call. No condition but a bound on the text's length. The laws' own small functions over rows of integers (how great, copied, compared, marked, looked whether the marks are held), call by call. Each contract says what it asks. Elements of the field in lists: which integers are elements, which lists hold elements alone, which integers lie between two: the program's functions and its model's, call by call; memory stays as it was. No condition. Which rows of rows are matrices: the program's function and its model's, call by call: both answer 'goodM'. No condition. Unlike elements: plain mathematics. No call is walked here. Powers, inverses, quotients and orders as the program and its model make them, and the public functions of the field: each returns what the plain functions say, and leaves memory as it was. The program's table of rests must hold its seven numbers where the program's own functions are called.
-/
import Derived.Test.YtdoldboefceliaaDoorTextFromB2
import Derived.Laws.AppendOwnNone
import Derived.Deep.RegionHeld3
import Derived.Deep.OwnRows
import Derived.Test.YtdoldboefceliaaDoorTextFromB1
import Derived.Deep.RegionWith
import Derived.Test.YtdoldboefceliaaDoorTextFromB0
namespace Go.Proofs.YtdoldboefceliaaDoor
open Go.RowKit
set_option linter.unusedVariables false

theorem infoStr : (Tryd.prog.info? 9).map (fun i => (i.zero, i.size, i.bytes)) = some (some (.string ⟨#[]⟩), 1, 16) := by kernel_rfl
/-- The value v is a slice that reads as these texts, in this world. -/
def RdT (w : World) (v : Value) (xs : List ByteArray) : Prop :=
  ∃ a cap, v = .slice a xs.length cap ∧ xs.length ≤ cap ∧ (cap ≤ maxLen ∧ (a = none → cap = 0)) ∧ (∀ s ∈ xs, s.size ≤ maxLen) ∧ (xs = [] ∨ ∃ b off, a = some ⟨b, off, none⟩ ∧ b < w.heap.size ∧ ∀ i, i < xs.length → w.cell? ⟨b, off + i, none⟩ = some (.string (xs.getD i ⟨#[]⟩)))
/-- The value v is a slice of the call's own (its block is base or later) that reads as these texts. -/
abbrev OwnT (w : World) (base : Nat) (v : Value) (xs : List ByteArray) : Prop := w.ownsRow base 9 1 v xs.length (xs.map Value.string)

theorem RdT.below {w w' : World} {v : Value} {xs : List ByteArray} (h : RdT w v xs) (hb : Below w.heap.size w w') : RdT w' v xs := by
  obtain ⟨a, cap, rfl, h1, h2, h4, h3⟩ := h
  refine ⟨a, cap, rfl, h1, h2, h4, ?_⟩
  rcases h3 with h3 | ⟨b, off, rfl, hlt, hc⟩
  · exact .inl h3
  · exact .inr ⟨b, off, rfl, Nat.lt_of_lt_of_le hlt hb.size, fun i hi => (hb.cell (p := ⟨b, off + i, none⟩) hlt).trans (hc i hi)⟩
theorem OwnT.rd {w : World} {base : Nat} {v : Value} {xs : List ByteArray} (h : OwnT w base v xs) (hsz : ∀ s ∈ xs, s.size ≤ maxLen) : RdT w v xs := by
  rcases h.2 with ⟨rfl, hn⟩ | ⟨g, cap, cur, rfl, hb, hg, hc, hm, hs, ht⟩
  · have : xs = [] := List.eq_nil_of_length_eq_zero hn
    subst this
    exact ⟨none, 0, rfl, Nat.le_refl _, ⟨Nat.zero_le _, fun _ => rfl⟩, hsz, .inl rfl⟩
  · refine ⟨_, cap, rfl, hc, ⟨hm, fun h => by cases h⟩, hsz, .inr ⟨g, 0, rfl, (Array.getElem?_eq_some_iff.1 hg).1, fun i hi => ?_⟩⟩
    have := World.ownsRow.cellAt h i (by omega)
    rw [Nat.zero_add, this]
    simp [hi]
theorem OwnT.below {w w' : World} {base : Nat} {v : Value} {xs : List ByteArray} (h : OwnT w base v xs) (hb : Below w.heap.size w w') : OwnT w' base v xs := by
  refine ⟨h.1, ?_⟩
  rcases h.2 with hn | ⟨g, cap, cur, rfl, hb', hg, rest⟩
  · exact .inl hn
  · exact .inr ⟨g, cap, cur, rfl, hb', by rw [hb.block g (Array.getElem?_eq_some_iff.1 hg).1]; exact hg, rest⟩
theorem OwnT.mono {w : World} {base base' : Nat} {v : Value} {xs : List ByteArray} (h : OwnT w base v xs) (hb : base' ≤ base) : OwnT w base' v xs := by
  refine ⟨h.1, ?_⟩
  rcases h.2 with hn | ⟨g, cap, cur, rfl, hb', rest⟩
  · exact .inl hn
  · exact .inr ⟨g, cap, cur, rfl, Nat.le_trans hb hb', rest⟩
/-- A row of another is as it was behind a call that writes into a row of its own, base or later. -/
theorem RdT.grown {w w' : World} {v : Value} {xs : List ByteArray} {g : Option Nat} (h : RdT w v xs) (hg : w.grownBy w' g) (hne : ∀ a n c b off, v = .slice a n c → a = some ⟨b, off, none⟩ → g ≠ some b) : RdT w' v xs := by
  obtain ⟨a, cap, rfl, h1, h2, h4, h3⟩ := h
  refine ⟨a, cap, rfl, h1, h2, h4, ?_⟩
  rcases h3 with h3 | ⟨b, off, rfl, hlt, hc⟩
  · exact .inl h3
  · refine .inr ⟨b, off, rfl, Nat.lt_of_lt_of_le hlt hg.size, fun i hi => ?_⟩
    have e := hg.block b hlt (fun e => hne _ _ _ b off rfl rfl e.symm)
    rw [← hc i hi]
    unfold World.cell?
    rw [e]
theorem rdT_nil (w : World) : RdT w (.slice none 0 0) [] := ⟨none, 0, rfl, Nat.le_refl _, ⟨Nat.zero_le _, fun _ => rfl⟩, by simp, .inl rfl⟩
theorem rdT_open {w : World} {x : Addr} {len cap : Nat} {ss : List ByteArray} (hl : len ≤ cap) (hm : cap ≤ maxLen) (hz : ss.length = cap)
    (hcell : ∀ i, i < ss.length → w.cell? (x.add i) = some (.string (ss.getD i ByteArray.empty))) (hwz : ∀ s ∈ ss, s.size ≤ maxLen) : RdT w (.slice (some x) len cap) (ss.take len) := by
  obtain ⟨b, off, sp⟩ := x
  have el : (ss.take len).length = len := by rw [List.length_take]; omega
  refine ⟨_, cap, by rw [el], by rw [el]; exact hl, ⟨hm, fun h => by cases h⟩, fun s hs => hwz s (List.mem_of_mem_take hs), ?_⟩
  by_cases h0 : len = 0
  · left
    subst h0
    rfl
  · right
    have h00 := hcell 0 (by omega)
    obtain rfl : sp = none := by simpa [Addr.add] using World.cell?_spot h00
    refine ⟨b, off, rfl, ?_, ?_⟩
    · have : w.cell? ⟨b, off, none⟩ = some (.string (ss.getD 0 ByteArray.empty)) := by simpa [Addr.add] using h00
      unfold World.cell? at this
      cases hh : w.heap[b]? with
      | none => simp [hh] at this
      | some o => exact (Array.getElem?_eq_some_iff.1 hh).1
    · intro i hi
      rw [el] at hi
      have := hcell i (by omega)
      have hadd : (⟨b, off, none⟩ : Addr).add i = ⟨b, off + i, none⟩ := by unfold Addr.add; split <;> simp_all
      rw [hadd] at this
      rw [this]
      have hiz : i < ss.length := by omega
      simp only [List.getD_eq_getElem?_getD, List.getElem?_take, if_pos hi, List.getElem?_eq_getElem hiz, Option.getD_some]
theorem strs_oneCell (zs : List ByteArray) : ∀ u ∈ zs.map Value.string, u.oneCell' = true := by
  intro u hu
  obtain ⟨b, _, rfl⟩ := List.mem_map.1 hu
  rfl

/-- 'append(out, p...)', out the call's own, p a row of the next block but one: one text. -/
theorem wpList_append_text1 {w : World} {ops : Array Oper} {rest : List Oper} {o : Oper} {a : Act} {Q : Exit → Act → World → Prop} (hgd : o.guard = none) (s x : Operand)
    (ho : o.op = .call { callee := .builtin .append, args := #[s, x], argTypes := #[36, 36] })
    (base : Nat) (v : Value) (n : Nat) (xs : List ByteArray) (z : ByteArray) (hs : a.eval s = v) (hown : w.ownsRow base 9 1 v n (xs.map Value.string)) (g : Nat) (hx : a.eval x = .slice (some ⟨g, 0, none⟩) 1 1) (hr : w.cell? ⟨g, 0, none⟩ = some (.string z))
    (hm : n + 1 ≤ 1073741824) (hbase : base ≤ w.heap.size)
    (h : ∀ v' w', OwnT w' base v' (xs ++ [z]) → w.grownBy w' v.ownBlock → wpList Tryd.prog ops Q rest (a.put o.dst v') w') : wpList Tryd.prog ops Q (o :: rest) a w := by
  obtain ⟨i0, hi, hz0, hz1, hz2⟩ := info_parts infoStr
  have hxn : xs.length = n := by have := hown.1; simpa using this
  refine wpList_append_own (w := w) hgd s x _ ho base _ i0 (.string ⟨#[]⟩) 1 16 Tryd.underlying36 hi hz0 hz1 hz2 rfl (by decide) v n _ hs hown ⟨g, 0, none⟩ 1 1 ([z].map Value.string) hx (by simp) ?_ (strs_oneCell _) (by unfold maxLen; omega) (by omega) hbase ?_
  · intro j y hj
    have hjl : j = 0 := by have := (List.getElem?_eq_some_iff.1 hj).1; simp at this; exact this
    subst hjl
    have hadd : (⟨g, 0, none⟩ : Addr).add 0 = ⟨g, 0, none⟩ := by unfold Addr.add; split <;> simp_all
    rw [hadd, hr]
    simpa using hj
  · intro v' w' ho' hg' _
    refine h v' w' ?_ hg'
    show World.ownsRow _ _ _ _ _ (xs ++ [z]).length _
    rw [List.map_append, List.length_append, hxn]
    exact ho'
/-- 'make([]string, n)': n empty texts of the call's own, in the next block. -/
theorem wpList_make_texts {w : World} {ops : Array Oper} {rest : List Oper} {o : Oper} {a : Act} {Q : Exit → Act → World → Prop} (hg : o.guard = none) (l c : Operand) (hop : o.op = Op.makeSlice 36 l c)
    (base : Nat) (L C : Int) (n : Nat) (hl : a.eval l = .int .i64 L) (hc : a.eval c = .int .i64 C) (hL : L = (n : Int)) (hC : C = (n : Int)) (hn : n ≤ 1073741824) (hb : base ≤ w.heap.size)
    (h : ∀ w', OwnT w' base (.slice (some ⟨w.heap.size, 0, none⟩) n n) (List.replicate n ⟨#[]⟩) → w.grownBy w' none → wpList Tryd.prog ops Q rest (a.put o.dst (.slice (some ⟨w.heap.size, 0, none⟩) n n)) w') : wpList Tryd.prog ops Q (o :: rest) a w := by
  obtain ⟨i0, hi, hz0, hz1, hz2⟩ := info_parts infoStr
  refine wpList_make_full w hg l c _ hop base 9 i0 (.string ⟨#[]⟩) 1 Tryd.underlying36 hi hz0 hz1 _ _ L C n hl hc hL hC (by rw [hz2]; omega) (by unfold maxLen; omega) hb ?_
  intro w' ho hg'
  refine h w' ?_ hg'
  show World.ownsRow _ _ _ _ _ (List.replicate n (⟨#[]⟩ : ByteArray)).length _
  rw [List.length_replicate, List.map_replicate]
  have e : (madeCells (Value.string ⟨#[]⟩).cells (n * 1)).toList = List.replicate n (Value.string ⟨#[]⟩) := by
    rw [Nat.mul_one]; exact toList_madeCells_one _ n
  rw [e] at ho
  exact ho

/-- What is copied so far. -/
def cpT (xs : List ByteArray) (k : Nat) : List ByteArray := xs.take k ++ List.replicate (xs.length - k) ⟨#[]⟩
theorem cpT_length (xs : List ByteArray) (k : Nat) (h : k ≤ xs.length) : (cpT xs k).length = xs.length := by simp [cpT]; omega
theorem cpT_step (xs : List ByteArray) (k : Nat) (h : k < xs.length) : (cpT xs k).set k (xs.getD k ⟨#[]⟩) = cpT xs (k + 1) := by
  have e1 : (xs.take k).length = k := by simp; omega
  unfold cpT
  rw [List.set_append_right _ _ (by omega), e1, Nat.sub_self]
  obtain ⟨m, hm⟩ : ∃ m, xs.length - k = m + 1 := ⟨xs.length - k - 1, by omega⟩
  have hm2 : xs.length - (k + 1) = m := by omega
  rw [hm, hm2, List.replicate_succ, List.set_cons_zero, List.take_succ_eq_append_getElem h, List.append_assoc]
  simp only [List.getD_eq_getElem?_getD, List.getElem?_eq_getElem h, Option.getD_some, List.singleton_append]
theorem cpT_end (xs : List ByteArray) : cpT xs xs.length = xs := by simp [cpT]
theorem cpT_zero (xs : List ByteArray) : cpT xs 0 = List.replicate xs.length ⟨#[]⟩ := by simp [cpT]

/-- What the measure of some texts tells. -/
def SzOk (xs : List ByteArray) (r : Int) : Prop := r < 0 ∨ (0 ≤ r ∧ xs.length ≤ 1048576 ∧ ∀ i, i < xs.length → (xs.getD i ⟨#[]⟩).size ≤ 1048576)

/-- A number's digits, as bytes, so many of them at most. -/
def decF : Nat → Nat → List Nat
  | 0, _ => []
  | f + 1, k => if k = 0 then [] else decF f (k / 10) ++ [48 + k % 10]
theorem decF_same : ∀ (f g k : Nat), k < f → k < g → decF f k = decF g k
  | 0, _, _, h, _ => by omega
  | _, 0, _, _, h => by omega
  | f + 1, g + 1, k, h1, h2 => by
    unfold decF
    by_cases h : k = 0
    · rw [if_pos h, if_pos h]
    · rw [if_neg h, if_neg h, decF_same f g (k / 10) (by omega) (by omega)]
/-- A number's digits, as bytes. -/
def decL (k : Nat) : List Nat := decF (k + 1) k
theorem decL_zero : decL 0 = [] := rfl
theorem decL_pos (k : Nat) (h : 0 < k) : decL k = decL (k / 10) ++ [48 + k % 10] := by
  unfold decL
  rw [decF_same (k / 10 + 1) k (k / 10) (by omega) (by omega)]
  show (if k = 0 then [] else decF k (k / 10) ++ [48 + k % 10]) = _
  rw [if_neg (by omega)]
theorem decL_length (k : Nat) : (decL k).length ≤ k := by
  induction k using Nat.strongRecOn with
  | ind k ih =>
    by_cases h : k = 0
    · subst h; rw [decL_zero]; exact Nat.le_refl _
    · rw [decL_pos k (by omega), List.length_append]
      have := ih (k / 10) (by omega)
      simp
      omega
/-- The mark of a number. -/
def mt (k : Nat) : ByteArray := ofN (109 :: decL k)
theorem mt_size (k : Nat) : (mt k).size ≤ k + 1 := by
  unfold mt
  rw [ofN_size, List.length_cons]
  have := decL_length k
  omega
theorem byte_text (d : Nat) (hd : d < 256) (W : World) : (convert 45 9 (.slice (some ⟨W.heap.size, 0, none⟩) 1 1)).run Tryd.prog (W.alloc (.cells #[.int .u8 (d : Int)] 5)) = .ok (.string (ofN [d])) (W.alloc (.cells #[.int .u8 (d : Int)] 5)) := by
  have hz : ZRow (W.alloc (.cells #[.int .u8 (d : Int)] 5)) W.heap.size [d] := heap_alloc_new W _
  have := hz.conv (n := 1) (cap := 1) (by simpa using hd) (Nat.le_refl _)
  exact this

end Go.Proofs.YtdoldboefceliaaDoor

namespace Go.Proofs.YtdoldboefceliaaDoor
open Go.RowKit
set_option linter.unusedVariables false

/-- The marks k, k + 1, .. -/
def marksT (k n : Nat) : List ByteArray := (List.range n).map fun i : Nat => mt (k + i)
theorem marksT_length (k n : Nat) : (marksT k n).length = n := by simp [marksT]
theorem marksT_getD (k n i : Nat) (h : i < n) : (marksT k n).getD i ⟨#[]⟩ = mt (k + i) := by simp [marksT, h]
/-- What is marked so far. -/
def mkT (k : Nat) (xs : List ByteArray) (i : Nat) : List ByteArray := marksT k i ++ xs.drop i
theorem mkT_length (k : Nat) (xs : List ByteArray) (i : Nat) (h : i ≤ xs.length) : (mkT k xs i).length = xs.length := by simp [mkT, marksT]; omega
theorem mkT_step (k : Nat) (xs : List ByteArray) (i : Nat) (h : i < xs.length) : (mkT k xs i).set i (mt (k + i)) = mkT k xs (i + 1) := by
  unfold mkT
  rw [List.set_append_right _ _ (by simp [marksT]), marksT_length, Nat.sub_self, List.drop_eq_getElem_cons h, List.set_cons_zero]
  simp [marksT, List.range_succ]
theorem mkT_end (k : Nat) (xs : List ByteArray) : mkT k xs xs.length = marksT k xs.length := by simp [mkT]
theorem below_grow {w w' : World} (h : Below w.heap.size w w') (g : Option Nat) : w.grownBy w' g := ⟨h.os, h.tape, h.output, h.size, fun j hj _ => h.block j hj⟩
theorem marksT_small (k n : Nat) (h : k + n ≤ 1099511627776) : ∀ s ∈ marksT k n, s.size ≤ maxLen := by
  intro s hs
  simp only [marksT, List.mem_map, List.mem_range] at hs
  obtain ⟨i, hi, rfl⟩ := hs
  have := mt_size (k + i)
  unfold maxLen
  omega

end Go.Proofs.YtdoldboefceliaaDoor

namespace Go.Proofs.YtdoldboefceliaaDoor
open Go.RowKit

/-- A stronger condition on worlds may be held from here on. -/
theorem wpAnyH_imp {P : Program} {md : Region.Mode} {ops : Array Oper} {Q : Exit → Act → World → Prop} {S S' : World → Prop} (hS : ∀ w, S' w → S w) : ∀ (fuel : Nat) (listed : Array Bool) (a : Act) (w : World),
    wpAnyH P md ops Q S' fuel listed a w → wpAnyH P md ops Q S fuel listed a w
  | 0, _, _, _, h => h
  | fuel + 1, _, _, _, h => ⟨h.1, fun i hi => wpOp_mono (fun _ _ h2 => ⟨hS _ h2.1, wpAnyH_imp hS fuel _ _ _ h2.2⟩) (h.2 i hi)⟩

theorem headB_parts (k a e : Nat) (b : ByteArray) (hk : k < 256) (ha : a < 65536) (he : e < 65536) (h : b.size ≤ 16) :
    ofN (hiB k 1) ++ ofN (hiB a 2) ++ ofN (hiB e 2) ++ ofN (hiB b.size 1) ++ b ++ zst (16 - b.size + 2) = ofN (headB k a e (bs b)) := by
  have e1 : zst (16 - b.size + 2) = ofN (List.replicate (18 - b.size) 0) := by
    have := ofN_bs (zst (16 - b.size + 2))
    rw [bs_zst] at this
    rw [← this]
    congr 2
    omega
  have e2 : b = ofN (bs b) := (ofN_bs b).symm
  rw [e1]
  conv => lhs; rw [show (ofN (hiB k 1) ++ ofN (hiB a 2) ++ ofN (hiB e 2) ++ ofN (hiB b.size 1) ++ b) = (ofN (hiB k 1) ++ ofN (hiB a 2) ++ ofN (hiB e 2) ++ ofN (hiB b.size 1) ++ ofN (bs b)) by rw [← e2]]
  rw [ofN_append, ofN_append, ofN_append, ofN_append, ofN_append]
  congr 1
  unfold headB
  rw [bs_length]
  have k1 : hiB k 1 = [k] := by simp [hiB]; omega
  have a1 : hiB a 2 = [a / 256, a % 256] := by simp [hiB]; omega
  have c1 : hiB e 2 = [e / 256, e % 256] := by simp [hiB]; omega
  have b1 : hiB b.size 1 = [b.size] := by simp [hiB]; omega
  rw [k1, a1, c1, b1]
  simp
end Go.Proofs.YtdoldboefceliaaDoor

namespace Go.Proofs.YtdoldboefceliaaDoor
open Go.RowKit

end Go.Proofs.YtdoldboefceliaaDoor

namespace Go.Proofs.YtdoldboefceliaaDoor
open Go.RowKit

theorem toList_inj {s t : ByteArray} (h : s.toList = t.toList) : s = t := by
  rw [ByteArray.toList_eq, ByteArray.toList_eq] at h
  obtain ⟨⟨a⟩⟩ := s
  obtain ⟨⟨b⟩⟩ := t
  simp at h
  rw [h]
theorem bs_take (s : ByteArray) (k : Nat) : bs (s.extract 0 k) = (bs s).take k := by
  obtain ⟨⟨l⟩⟩ := s
  have e := ByteArray.extract_mk l 0 k
  have e1 : (ByteArray.mk ⟨l⟩).extract 0 k = ByteArray.mk (l.take k).toArray := by simpa using e
  rw [e1]
  show ((l.take k).toArray.toList.map UInt8.toNat) = (l.map UInt8.toNat).take k
  simp [List.map_take]
theorem bs_drop (s : ByteArray) (k : Nat) : bs (s.extract k s.size) = (bs s).drop k := by
  obtain ⟨⟨l⟩⟩ := s
  have e1 : (ByteArray.mk ⟨l⟩).extract k (ByteArray.mk ⟨l⟩).size = ByteArray.mk (l.drop k).toArray := by
    have := ByteArray.extract_mk l k l.length
    rw [List.take_of_length_le (by rw [List.length_drop]; exact Nat.le_refl _)] at this
    exact this
  rw [e1]
  show ((l.drop k).toArray.toList.map UInt8.toNat) = (l.map UInt8.toNat).drop k
  simp [List.map_drop]
theorem bs_mid (s : ByteArray) (i j : Nat) : bs (s.extract i j) = ((bs s).drop i).take (j - i) := by
  obtain ⟨⟨l⟩⟩ := s
  have e1 : (ByteArray.mk ⟨l⟩).extract i j = ByteArray.mk ((l.drop i).take (j - i)).toArray := ByteArray.extract_mk l i j
  rw [e1]
  show (((l.drop i).take (j - i)).toArray.toList.map UInt8.toNat) = ((l.map UInt8.toNat).drop i).take (j - i)
  simp [List.map_take, List.map_drop]

/-- Where a piece of n bytes from f on lies. -/
def cutO (f n : Nat) : Nat := if n = 0 then 0 else f
theorem BRow.cut {w : World} {g m f n : Nat} {l : List Nat} (h : BRow w g m l) (hl : ∀ b ∈ l, b < 256) (hn : f + n ≤ l.length) :
    (convert 45 9 (.slice (some ⟨g, cutO f n, none⟩) n n)).run Tryd.prog w = .ok (.string (ofN ((l.drop f).take n))) w := by
  have := run_convert_bytes_back (P := Tryd.prog) w 45 9 5 ⟨g, cutO f n, none⟩ n (((l.drop f).take n).map UInt8.ofNat) Tryd.underlying45 Tryd.underlying5 Tryd.underlying9 (fun j hj => by
    have hj' : j < n := by simp at hj; omega
    have hadd : (⟨g, cutO f n, none⟩ : Addr).add j = ⟨g, cutO f n + j, none⟩ := by unfold Addr.add; split <;> simp_all
    have hcu : cutO f n = f := if_neg (by omega)
    rw [hadd, hcu, h.cell (f + j) (by omega), List.getD_eq_getElem?_getD, List.getElem?_eq_getElem (by omega), List.getElem_map, List.getElem_take, List.getElem_drop, Option.getD_some]
    rw [UInt8.toNat_ofNat', Nat.mod_eq_of_lt (hl _ (List.getElem_mem _))])
  rw [List.length_map, List.length_take, List.length_drop, Nat.min_eq_left (by omega)] at this
  exact this
theorem BRow.kept {w w' : World} {g m : Nat} {l : List Nat} (h : BRow w g m l) (hb : Below w.heap.size w w') : BRow w' g m l := by
  have hl := h.lt
  obtain ⟨C, h1, h2⟩ := h
  exact ⟨C, by rw [hb.block g hl]; exact h1, h2⟩
end Go.Proofs.YtdoldboefceliaaDoor

namespace Go.Proofs.YtdoldboefceliaaDoor
open Go.RowKit
set_option linter.unusedVariables false

/-- The k-th piece of 16 bytes. -/
def pc (S : ByteArray) (k : Nat) : ByteArray := ofN (((bs S).drop (16 * k)).take 16)
def pcs (S : ByteArray) (k : Nat) : List ByteArray := (List.range k).map (pc S)
theorem pcs_succ (S : ByteArray) (k : Nat) : pcs S (k + 1) = pcs S k ++ [pc S k] := by simp [pcs, List.range_succ]
theorem pcs_length (S : ByteArray) (k : Nat) : (pcs S k).length = k := by simp [pcs]
theorem pc_size (S : ByteArray) (k : Nat) : (pc S k).size = min 16 (S.size - 16 * k) := by
  unfold pc
  rw [ofN_size, List.length_take, List.length_drop, bs_length]
theorem pcs_small (S : ByteArray) (k : Nat) : ∀ s ∈ pcs S k, s.size ≤ maxLen := by
  intro s hs
  simp only [pcs, List.mem_map, List.mem_range] at hs
  obtain ⟨i, _, rfl⟩ := hs
  rw [pc_size]
  unfold maxLen
  omega
/-- How many pieces there are. -/
def many (S : ByteArray) : Nat := (S.size + 15) / 16
def splR (S : ByteArray) : List ByteArray × Bool := if 1 ≤ S.size ∧ S.size ≤ 160 then (pcs S (many S), true) else ([], false)
theorem ext_take (l : List Nat) (k : Nat) : (ofN l).extract 0 k = ofN (l.take k) := by
  have e := ByteArray.extract_mk (l.map UInt8.ofNat) 0 k
  unfold ofN
  have : (ByteArray.mk (l.map UInt8.ofNat).toArray).extract 0 k = ByteArray.mk ((l.map UInt8.ofNat).take k).toArray := by simpa using e
  rw [this, List.map_take]
theorem ext_drop (l : List Nat) (k n : Nat) (h : n = l.length) : (ofN l).extract k n = ofN (l.drop k) := by
  subst h
  have e := ByteArray.extract_mk (l.map UInt8.ofNat) k l.length
  unfold ofN
  have e2 : ((l.map UInt8.ofNat).drop k).take (l.length - k) = (l.map UInt8.ofNat).drop k := List.take_of_length_le (by rw [List.length_drop, List.length_map]; exact Nat.le_refl _)
  rw [e2] at e
  rw [List.map_drop]
  exact e
theorem ownT_nil (w : World) (base : Nat) : OwnT w base (.slice none 0 0) [] := World.ownsRow_nil _ _ _ _
theorem own_ge {w : World} {base : Nat} {v : Value} {xs : List ByteArray} (h : OwnT w base v xs) : ∀ j, v.ownBlock = some j → base ≤ j := by
  intro j hj
  rcases h.2 with ⟨rfl, _⟩ | ⟨g, cap, cur, rfl, hb, _⟩
  · simp [Value.ownBlock] at hj
  · simp [Value.ownBlock] at hj
    omega
theorem ownsRow_less {w : World} {base base' n : Nat} {v : Value} {xs : List Value} (h : w.ownsRow base 9 1 v n xs) (hb : base' ≤ base) : w.ownsRow base' 9 1 v n xs := by
  refine ⟨h.1, ?_⟩
  rcases h.2 with hn | ⟨g, cap, cur, rfl, hb', rest⟩
  · exact .inl hn
  · exact .inr ⟨g, cap, cur, rfl, Nat.le_trans hb hb', rest⟩
theorem own_slice {w : World} {base : Nat} {v : Value} {xs : List ByteArray} (h : OwnT w base v xs) : ∃ a cap, v = .slice a xs.length cap := by
  rcases h.2 with ⟨rfl, h0⟩ | ⟨g, cap, cur, rfl, hb, _⟩
  · exact ⟨none, 0, by rw [h0]⟩
  · exact ⟨_, cap, rfl⟩
theorem OwnT.wide {w : World} {base n : Nat} {v : Value} {xs : List ByteArray} (h : OwnT w base v xs) (hn : n = xs.length) : w.ownsRow base 9 1 v n (xs.map Value.string) := by rw [hn]; exact h

theorem BRow.grown {w w' : World} {g m : Nat} {l : List Nat} {r : Option Nat} (h : BRow w g m l) (hg : w.grownBy w' r) (hne : ∀ j, r = some j → g < j) : BRow w' g m l := by
  have hl := h.lt
  obtain ⟨C, h1, h2⟩ := h
  refine ⟨C, ?_, h2⟩
  rw [hg.block g hl (fun e => by have := hne g e.symm; omega)]
  exact h1

theorem splR_facts (S : ByteArray) : (splR S).1.length ≤ 10 ∧ ∀ s ∈ (splR S).1, s.size ≤ maxLen := by
  unfold splR
  split
  · refine ⟨?_, pcs_small S _⟩
    show (pcs S (many S)).length ≤ 10
    rw [pcs_length]
    unfold many
    omega
  · exact ⟨by simp, by simp⟩
end Go.Proofs.YtdoldboefceliaaDoor

namespace Go.Proofs.YtdoldboefceliaaDoor
open Go.RowKit

def tot (m : List (List Int)) : Nat := (m.map List.length).sum
theorem tot_nil : tot [] = 0 := rfl
theorem tot_take_succ (m : List (List Int)) (k : Nat) (h : k < m.length) : tot (m.take (k + 1)) = tot (m.take k) + (m.getD k []).length := by
  unfold tot
  rw [List.take_succ_eq_append_getElem h, List.map_append, List.sum_append]
  simp [List.getD_eq_getElem?_getD, List.getElem?_eq_getElem h]
theorem tot_app (a b : List (List Int)) : tot (a ++ b) = tot a + tot b := by simp [tot]
theorem tot_take_le (m : List (List Int)) (k : Nat) : tot (m.take k) ≤ tot m := by
  have := congrArg tot (List.take_append_drop k m)
  rw [tot_app] at this
  omega
theorem tot_row_le (m : List (List Int)) (k : Nat) (h : k < m.length) : tot (m.take k) + (m.getD k []).length ≤ tot m := by
  rw [← tot_take_succ m k h]; exact tot_take_le m (k + 1)
theorem Own.shape {w : World} {base : Nat} {v : Value} {xs : List Int} (h : Own w base v xs) : ∃ a n c, v = .slice a n c := by
  rcases h.2 with ⟨rfl, _⟩ | ⟨g, cap, cur, rfl, _⟩
  · exact ⟨_, _, _, rfl⟩
  · exact ⟨_, _, _, rfl⟩

set_option maxRecDepth 100000 in
set_option maxHeartbeats 400000 in
theorem szIntS_calls (v : Value) (xs : List Int) (l : Int) (w : World) (h : Rd w v xs) (h0 : 0 ≤ l) (hl : l ≤ 1048576) :
    Calls Tryd.prog 9 #[v, .int .i64 l] w fun e w' => e = .returned (.int .i64 (if (xs.length : Int) ≤ l then l - xs.length else -1)) ∧ w = w' := by
  obtain ⟨a, cap, rfl, h1, h2, h3⟩ := h
  have hm : xs.length ≤ maxLen := by omega
  unfold maxLen at hm
  clear h3 h2 h1
  by_cases hc : (xs.length : Int) ≤ l
  · rw [if_pos hc]
    have e : ¬ (l - (xs.length : Int) < 0) := by omega
    go_enter Tryd.func9, Tryd.ntmps9
    go_wp2
    go_ret
    exact ⟨rfl, rfl⟩
  · rw [if_neg hc]
    have e : l - (xs.length : Int) < 0 := by omega
    go_enter Tryd.func9, Tryd.ntmps9
    go_wp2
    go_ret
    exact ⟨rfl, rfl⟩

set_option maxRecDepth 100000 in
set_option maxHeartbeats 800000 in
theorem szIntSS_calls (v : Value) (m : List (List Int)) (l : Int) (w : World) (h : RdM w v m) (h0 : 0 ≤ l) (hl : l ≤ 1048576) :
    Calls Tryd.prog 4 #[v, .int .i64 l] w fun e w' => e = .returned (.int .i64 (if (m.length : Int) + tot m ≤ l then l - (m.length + tot m) else -1)) ∧ w = w' := by
  have R := hide h
  obtain ⟨a, cap, rfl, h1, h2, h3⟩ := h
  have hm : m.length ≤ maxLen := by omega
  unfold maxLen at hm
  clear h3 h2 h1
  by_cases hc : (m.length : Int) ≤ l
  case neg =>
    rw [if_neg (by omega)]
    have e : l - (m.length : Int) < 0 := by omega
    go_enter Tryd.func4, Tryd.ntmps4
    go_wp2
    go_ret
    exact ⟨rfl, rfl⟩
  have e : ¬ (l - (m.length : Int) < 0) := by omega
  obtain ⟨T, hT⟩ : ∃ T : Nat, T = tot m := ⟨_, rfl⟩
  rw [← hT]
  have TT := hide hT
  clear hT
  obtain ⟨res, hres⟩ : ∃ res : Int, res = if (m.length : Int) + T ≤ l then l - (m.length + T) else -1 := ⟨_, rfl⟩
  rw [← hres]
  have RS := hide hres
  clear hres
  go_enter Tryd.func4, Tryd.ntmps4
  go_wp2
  go_loop [1, 5] (fun vl vi => ∃ (k t : Nat), k ≤ m.length ∧ vi = .int .i64 k ∧ t = tot (m.take k) ∧ (m.length : Int) + t ≤ l ∧ vl = .int .i64 (l - m.length - t)) (fun _ vi => m.length - (intOf vi).toNat)
  case atStart => exact ⟨0, 0, Nat.zero_le _, rfl, by simp [tot], by omega, by go_num⟩
  case round =>
    obtain ⟨k, t, hk, rfl, ht, htl, rfl⟩ := hrel
    have Ht := hide ht
    clear ht
    by_cases hlt : k < m.length
    · obtain ⟨b, off, u, rfl, hc1, hu⟩ := R.out.row k hlt
      have U := hide hu
      clear hu
      obtain ⟨r, hr⟩ : ∃ r, r = (m.getD k []).length := ⟨_, rfl⟩
      have hs := tot_take_succ m k hlt
      have hs2 := tot_row_le m k hlt
      rw [← hr, ← Ht.out] at hs hs2
      have Hs := hide hs
      have Hs2 := hide hs2
      have Hr := hide hr
      clear hs hs2 hr
      have hlt' : (k : Int) < (m.length : Int) := by omega
      by_cases hf : (r : Int) ≤ l - (m.length : Int) - (t : Int)
      · have e2 : ¬ (l - (m.length : Int) - (t : Int) - (r : Int) < 0) := by omega
        go_wp2_with (go_at_call 9; refine (szIntS_calls _ _ _ _ U.out (by omega) (by omega)).mono ?_; rw [← Hr.out, if_pos hf]; rintro e w' ⟨rfl, rfl⟩)
        go_round
        case rel => exact ⟨k + 1, t + r, by omega, by go_num, Hs.out.symm, by omega, by go_num⟩
        case measure => simp [intOf]; omega
      · go_wp2_with (go_at_call 9; refine (szIntS_calls _ _ _ _ U.out (by omega) (by omega)).mono ?_; rw [← Hr.out, if_neg hf]; rintro e w' ⟨rfl, rfl⟩)
        go_ret
        have h1 := Hs2.out
        have h2 := TT.out
        have h3 := RS.out
        rw [if_neg (by omega)] at h3
        rw [h3]
        exact ⟨rfl, rfl⟩
    · obtain rfl : k = m.length := by omega
      have h1 := Ht.out
      rw [List.take_length, ← TT.out] at h1
      have H1 := hide h1
      have Htl := hide htl
      clear h1 htl
      go_wp2
      go_ret
      have h3 := RS.out
      have h1 := H1.out
      have htl := Htl.out
      rw [if_pos (by omega)] at h3
      exact ⟨by rw [show res = l - (m.length : Int) - (t : Int) from by omega]; rfl, rfl⟩

/-- 'make([][]int, n)': n rows of nothing of the call's own, in the next block. -/
theorem wpList_make_rows {w : World} {ops : Array Oper} {rest : List Oper} {o : Oper} {a : Act} {Q : Exit → Act → World → Prop} (hg : o.guard = none) (l c : Operand) (hop : o.op = Op.makeSlice 22 l c)
    (L C : Int) (n : Nat) (hl : a.eval l = .int .i64 L) (hc : a.eval c = .int .i64 C) (hL : L = (n : Int)) (hC : C = (n : Int)) (hn : n ≤ 1048576)
    (h : ∀ w', MatV w' w.heap.size w'.heap.size (.slice (some ⟨w.heap.size, 0, none⟩) n n) (List.replicate n nilRow) (List.replicate n []) → w.grownBy w' none → wpList Tryd.prog ops Q rest (a.put o.dst (.slice (some ⟨w.heap.size, 0, none⟩) n n)) w') : wpList Tryd.prog ops Q (o :: rest) a w := by
  obtain ⟨i0, hi, hz0, hz1, hz2⟩ := info_parts infoRow
  refine wpList_make_full w hg l c _ hop w.heap.size 30 i0 (.slice none 0 0) 1 Tryd.underlying22 hi hz0 hz1 _ _ L C n hl hc hL hC (by rw [hz2]; omega) (by unfold maxLen; omega) (Nat.le_refl _) ?_
  intro w' ho hg'
  refine h w' ?_ hg'
  have e : (madeCells (Value.slice none 0 0).cells (n * 1)).toList = List.replicate n nilRow := by
    rw [Nat.mul_one]; exact toList_madeCells_one _ n
  rw [e] at ho
  have g1 : ∀ i, i < n → (List.replicate n nilRow).getD i nilRow = nilRow := fun i hi => by simp [List.getD_eq_getElem?_getD, hi]
  refine ⟨by simp, by rw [List.length_replicate]; exact ho, ?_, fun k hk => (World.ownsRow.lt ho k hk).2, ?_, ?_⟩
  · intro i hi
    rw [List.length_replicate] at hi
    rw [g1 i hi]
    have g2 : (List.replicate n ([] : List Int)).getD i [] = [] := by simp [List.getD_eq_getElem?_getD, hi]
    rw [g2]
    exact World.ownsRow_nil _ _ _ _
  · intro i k hi hk
    rw [List.length_replicate] at hi
    rw [g1 i hi] at hk
    simp [Value.ownBlock] at hk
  · intro i j hi hj _
    rw [List.length_replicate] at hi
    rw [g1 i hi]
    exact .inl rfl

/-- The first k rows; nothing in the others. -/
def toTo (m : List (List Int)) (k : Nat) : List (List Int) := m.take k ++ List.replicate (m.length - k) []
theorem toTo_length (m : List (List Int)) (k : Nat) (h : k ≤ m.length) : (toTo m k).length = m.length := by simp [toTo]; omega
theorem toTo_step (m : List (List Int)) (k : Nat) (h : k < m.length) : (toTo m k).set k (m.getD k []) = toTo m (k + 1) := by
  have e1 : (m.take k).length = k := by simp; omega
  unfold toTo
  rw [List.set_append_right _ _ (by omega), e1, Nat.sub_self]
  obtain ⟨j, hm⟩ : ∃ j, m.length - k = j + 1 := ⟨m.length - k - 1, by omega⟩
  have hm2 : m.length - (k + 1) = j := by omega
  rw [hm, hm2, List.replicate_succ, List.set_cons_zero, List.take_succ_eq_append_getElem h, List.append_assoc]
  simp only [List.getD_eq_getElem?_getD, List.getElem?_eq_getElem h, Option.getD_some, List.singleton_append]
theorem toTo_end (m : List (List Int)) : toTo m m.length = m := by simp [toTo]
theorem toTo_zero (m : List (List Int)) : toTo m 0 = List.replicate m.length [] := by simp [toTo]

set_option maxRecDepth 100000 in
set_option maxHeartbeats 800000 in
theorem toIntSS_calls (v : Value) (m : List (List Int)) (w : World) (h : RdM w v m) (hn : m.length + tot m ≤ 1048576) :
    Calls Tryd.prog 6 #[v] w fun e w' => ∃ v', e = .returned v' ∧ Mat w' w.heap.size w'.heap.size v' m ∧ Below w.heap.size w w' := by
  have R := hide h
  obtain ⟨a, cap, rfl, h1, h2, h3⟩ := h
  clear h3 h2 h1
  have hn1 : m.length ≤ 1048576 := by omega
  have Hn := hide hn
  clear hn
  go_enter Tryd.func6, Tryd.ntmps6
  go_wp2_with (at_make; refine wpList_make_rows rfl _ _ rfl _ _ m.length rfl rfl (by omega) (by omega) hn1 ?_)
  intro w0 hm0 hg0
  go_wp2
  go_loopw [4] (fun vi wr => ∃ (k : Nat) (vs : List Value), k ≤ m.length ∧ vi = .int .i64 k ∧ MatV wr w.heap.size wr.heap.size (.slice (some ⟨w.heap.size, 0, none⟩) m.length m.length) vs (toTo m k) ∧ Below w.heap.size w wr) (fun vi _ => m.length - (intOf vi).toNat)
  case atStart =>
    refine ⟨0, List.replicate m.length nilRow, Nat.zero_le _, rfl, ?_, (Below.refl _ _).grown hg0 (Nat.le_refl _) (fun k h => by cases h)⟩
    rw [toTo_zero]
    exact hm0
  case round =>
    obtain ⟨k, vs, hk, rfl, hm, hb⟩ := hrel
    by_cases hlt : k < m.length
    · obtain ⟨b, off, u, rfl, hc1, hu⟩ := (R.out.below hb).row k hlt
      have U := hide hu
      have M := hide hm
      have B := hide hb
      clear hu hm hb hm0 hg0
      have hlt' : (k : Int) < (m.length : Int) := by omega
      go_wp2_with fail
      refine (toIntS_calls _ _ _ U.out (by have := tot_row_le m k hlt; have := Hn.out; omega)).mono ?_
      rintro e w1 ⟨x, rfl, hx, hb1⟩
      obtain ⟨xa, xn, xc, rfl⟩ := hx.shape
      have hkl : k < (toTo m k).length := by rw [toTo_length m k hk]; exact hlt
      have hM1 := M.out.below hb1
      have hc2 : w1.frozen? ⟨w.heap.size, k, none⟩ = false := World.ownsRow.frozenAt (by have := hM1.head; rwa [toTo_length m k hk] at this) k
      have hc3 := hM1.cell k hkl
      have L := hide (M.out.lay k hkl hb1 _ _ hx M.out.sizeLo (Nat.le_refl _))
      have B1 := hide hb1
      clear hM1 hx hb1
      go_wp2
      go_roundw
      case rel =>
        refine ⟨k + 1, vs.set k (.slice xa xn xc), by omega, by go_num, ?_, ?_⟩
        · have := L.out.1
          rw [toTo_step m k hlt] at this
          exact this
        · exact (B.out.trans (B1.out.mono B.out.size)).setCell (Nat.le_refl _) _
      case measure => simp [intOf]; omega
    · obtain rfl : k = m.length := by omega
      go_wp2
      go_ret
      rw [toTo_end] at hm
      exact ⟨_, rfl, ⟨_, hm⟩, hb⟩

set_option maxRecDepth 100000 in
set_option maxHeartbeats 400000 in
theorem eqIntS_quiet (v1 v2 : Value) (xs : List Int) (w : World) (h1 : Rd w v1 xs) (h2 : Rd w v2 xs) :
    Calls Tryd.prog 20 #[v1, v2] w fun e w' => e = .returned (.bool true) ∧ ∃ n, w' = w.drewN n := by
  obtain ⟨a1, c1, rfl, _, m1, k1⟩ := h1
  obtain ⟨a2, c2, rfl, _, _, k2⟩ := h2
  have hm : xs.length ≤ maxLen := by omega
  unfold maxLen at hm
  have K := hide k1
  have L := hide k2
  clear k1 k2 m1
  go_enter Tryd.func20, Tryd.ntmps20
  go_wp2
  go_loopw [5] (fun vi wr => ∃ k n : Nat, k ≤ xs.length ∧ vi = .int .i64 k ∧ wr = w.drewN n) (fun vi _ => xs.length - (intOf vi).toNat)
  case atStart => exact ⟨0, 0, Nat.zero_le _, rfl, rfl⟩
  case round =>
    obtain ⟨k, n, hk, rfl, rfl⟩ := hrel
    by_cases hlt : k < xs.length
    · rcases K.out with h3 | ⟨b, off, rfl, hbs, hc⟩
      · subst h3; simp at hlt
      rcases L.out with h3 | ⟨b', off', rfl, hbs', hc'⟩
      · subst h3; simp at hlt
      have e1 : w.cell? ⟨b, off + k, none⟩ = some (.int .i64 (xs.getD k 0)) := hc k hlt
      have e2 : w.cell? ⟨b', off' + k, none⟩ = some (.int .i64 (xs.getD k 0)) := hc' k hlt
      have hlt' : (k : Int) < (xs.length : Int) := by omega
      clear hc hc'
      go_wp2
      go_quiet (fail)
      go_wp2
      go_roundw
      case rel => exact ⟨k + 1, _, by omega, by go_num, rfl⟩
      case measure => simp [intOf]; omega
    · obtain rfl : k = xs.length := by omega
      go_wp2
      go_ret
      exact ⟨rfl, _, rfl⟩
theorem quiet_more {P : Program} {f : FuncId} {args : Array Value} {w : World} {n : Nat} {v : Value}
    (h : Calls P f args (w.drewN n) fun e w' => e = .returned v ∧ ∃ m, w' = (w.drewN n).drewN m) : Calls P f args (w.drewN n) fun e w'' => e = .returned v ∧ ∃ m, w'' = w.drewN m :=
  h.mono fun _ _ ⟨he, m, hm⟩ => ⟨he, n + m, by rw [hm, World.drewN_drewN]⟩
theorem Rd.drewN {w : World} {v : Value} {xs : List Int} (h : Rd w v xs) (n : Nat) : Rd (w.drewN n) v xs := h.below (below_drewN' n)

set_option maxRecDepth 100000 in
set_option maxHeartbeats 800000 in
theorem eqIntSS_same (v1 v2 : Value) (m : List (List Int)) (w : World) (h1 : RdM w v1 m) (h2 : RdM w v2 m) :
    Calls Tryd.prog 8 #[v1, v2] w fun e w' => e = .returned (.bool true) ∧ Below w.heap.size w w' := by
  have K := hide h1
  have L := hide h2
  obtain ⟨a1, c1, rfl, _, m1, k1⟩ := h1
  obtain ⟨a2, c2, rfl, _, _, k2⟩ := h2
  have hm : m.length ≤ maxLen := by omega
  unfold maxLen at hm
  clear k1 k2 m1
  go_enter Tryd.func8, Tryd.ntmps8
  go_wp2
  go_loopw [5] (fun vi wr => ∃ k : Nat, k ≤ m.length ∧ vi = .int .i64 k ∧ Below w.heap.size w wr) (fun vi _ => m.length - (intOf vi).toNat)
  case atStart => exact ⟨0, Nat.zero_le _, rfl, Below.refl _ _⟩
  case round =>
    obtain ⟨k, hk, rfl, hb⟩ := hrel
    by_cases hlt : k < m.length
    · obtain ⟨b, off, u, rfl, hc1, hu⟩ := (K.out.below hb).row k hlt
      obtain ⟨b', off', u', rfl, hc2, hu'⟩ := (L.out.below hb).row k hlt
      have U := hide hu
      have U' := hide hu'
      have hlt' : (k : Int) < (m.length : Int) := by omega
      have B := hide hb
      clear hu hu' hb
      go_wp2
      go_quiet ((go_at_call 20; exact quiet_more (eqIntS_quiet _ _ _ _ (Rd.drewN U.out _) (Rd.drewN U'.out _))))
      go_wp2
      go_roundw
      case rel => exact ⟨k + 1, by omega, by go_num, below_drewN B.out _⟩
      case measure => simp [intOf]; omega
    · obtain rfl : k = m.length := by omega
      go_wp2
      go_ret
      exact ⟨rfl, hb⟩

/-- The rows' marks: each row's numbers go on where the row ahead of it stopped. -/
def mkM (k : Int) (m : List (List Int)) (j : Nat) : List Int := marks (k + tot (m.take j)) (m.getD j []).length
def mkToM (k : Int) (m : List (List Int)) (i : Nat) : List (List Int) := (List.range i).map (mkM k m) ++ m.drop i
def marksM (k : Int) (m : List (List Int)) : List (List Int) := (List.range m.length).map (mkM k m)
theorem mkToM_length (k : Int) (m : List (List Int)) (i : Nat) (h : i ≤ m.length) : (mkToM k m i).length = m.length := by simp [mkToM]; omega
theorem mkToM_get (k : Int) (m : List (List Int)) (i : Nat) : (mkToM k m i).getD i [] = m.getD i [] := by
  simp only [mkToM, List.getD_eq_getElem?_getD]
  rw [List.getElem?_append_right (by simp)]
  simp
theorem mkToM_step (k : Int) (m : List (List Int)) (i : Nat) (h : i < m.length) : (mkToM k m i).set i (mkM k m i) = mkToM k m (i + 1) := by
  unfold mkToM
  rw [List.set_append_right _ _ (by simp), List.length_map, List.length_range, Nat.sub_self, List.drop_eq_getElem_cons h, List.set_cons_zero]
  simp [List.range_succ]
theorem mkToM_end (k : Int) (m : List (List Int)) : mkToM k m m.length = marksM k m := by simp [mkToM, marksM]
theorem marksM_length (k : Int) (m : List (List Int)) : (marksM k m).length = m.length := by simp [marksM]
theorem marksM_get (k : Int) (m : List (List Int)) (i : Nat) (h : i < m.length) : (marksM k m).getD i [] = mkM k m i := by simp [marksM, h]

end Go.Proofs.YtdoldboefceliaaDoor

namespace Go.Proofs.YtdoldboefceliaaDoor
open Go.RowKit
namespace Gf

theorem isE_yes (a : Int) (w : World) (ha0 : 0 ≤ a) (ha : a < 256) :
    Calls Tryd.prog 71 #[.int .i64 a] w fun e w' => e = .returned (.bool true) ∧ w = w' := by
  go_enter Tryd.func71, Tryd.ntmps71
  go_wp2
  go_ret
  exact ⟨rfl, rfl⟩
theorem l1In_yes (a lo hi : Int) (w : World) (ha0 : lo ≤ a) (ha : a ≤ hi) :
    Calls Tryd.prog 36 #[.int .i64 a, .int .i64 lo, .int .i64 hi] w fun e w' => e = .returned (.bool true) ∧ w = w' := by
  go_enter Tryd.func36, Tryd.ntmps36
  go_wp2
  go_ret
  exact ⟨rfl, rfl⟩
theorem l1Gf_yes (a : Int) (w : World) (ha0 : 0 ≤ a) (ha : a ≤ 255) :
    Calls Tryd.prog 35 #[.int .i64 a] w fun e w' => e = .returned (.bool true) ∧ w = w' := by
  go_enter Tryd.func35, Tryd.ntmps35
  go_wp2
  go_ret
  exact ⟨rfl, rfl⟩
/-- An owned slice that is not empty, opened. -/
theorem Own.open {w : World} {base : Nat} {v : Value} {xs : List Int} (h : Own w base v xs) (hn : 0 < xs.length) :
    ∃ g cap, v = .slice (some ⟨g, 0, none⟩) xs.length cap ∧ base ≤ g ∧ g < w.heap.size ∧ ∀ i, i < xs.length → w.cell? ⟨g, i, none⟩ = some (.int .i64 (xs.getD i 0)) := by
  rcases h.2 with ⟨_, h0⟩ | ⟨g, cap, cur, rfl, hb, hg, _⟩
  · omega
  · refine ⟨g, cap, rfl, hb, (Array.getElem?_eq_some_iff.1 hg).1, fun i hi => ?_⟩
    rw [World.ownsRow.cellAt h i (by omega)]
    simp [hi]

def elOk (x : Int) : Bool := decide (0 ≤ x ∧ x ≤ 255)
theorem ret_bool {a b : Bool} (h : a = b) : Ending.returned (.bool a) = .returned (.bool b) := by rw [h]
theorem elOk_iff {x : Int} : elOk x = true ↔ 0 ≤ x ∧ x ≤ 255 := by simp [elOk]
theorem elOk_no {x : Int} : elOk x = false ↔ ¬ (0 ≤ x ∧ x ≤ 255) := by simp [elOk]
theorem all_of_getD {xs : List Int} : (xs.all elOk = true) ↔ ∀ i, i < xs.length → elOk (xs.getD i 0) = true := by
  rw [List.all_eq_true]
  constructor
  · intro h i hi
    rw [List.getD_eq_getElem?_getD, List.getElem?_eq_getElem hi, Option.getD_some]
    exact h _ (List.getElem_mem hi)
  · intro h x hx
    obtain ⟨i, hi, rfl⟩ := List.mem_iff_getElem.1 hx
    have := h i hi
    rwa [List.getD_eq_getElem?_getD, List.getElem?_eq_getElem hi, Option.getD_some] at this
theorem all_bad {xs : List Int} {k : Nat} (hk : k < xs.length) (h : elOk (xs.getD k 0) = false) : xs.all elOk = false := by
  cases hh : xs.all elOk with
  | false => rfl
  | true => rw [all_of_getD.1 hh k hk] at h; cases h
/-- An element's outcome, in the walk's own form. -/
theorem elOk_tests {z : Int} (h : elOk z = true) : 0 ≤ z ∧ z < 256 := by have := elOk_iff.1 h; omega

set_option maxRecDepth 100000 in
theorem isE_calls (a : Int) (w : World) :
    Calls Tryd.prog 71 #[.int .i64 a] w fun e w' => e = .returned (.bool (elOk a)) ∧ w = w' := by
  by_cases h : 0 ≤ a
  · by_cases h2 : a < 256
    · have e : elOk a = true := elOk_iff.2 (by omega)
      rw [e]
      exact isE_yes a w h h2
    · have e : elOk a = false := elOk_no.2 (by omega)
      rw [e]
      go_enter Tryd.func71, Tryd.ntmps71
      go_wp2
      go_ret
      exact ⟨rfl, rfl⟩
  · have e : elOk a = false := elOk_no.2 (by omega)
    rw [e]
    go_enter Tryd.func71, Tryd.ntmps71
    go_wp2
    go_ret
    exact ⟨rfl, rfl⟩
set_option maxRecDepth 100000 in
theorem l1Gf_calls (a : Int) (w : World) :
    Calls Tryd.prog 35 #[.int .i64 a] w fun e w' => e = .returned (.bool (elOk a)) ∧ w = w' := by
  by_cases h : 0 ≤ a
  · by_cases h2 : a ≤ 255
    · have e : elOk a = true := elOk_iff.2 (by omega)
      rw [e]
      exact l1Gf_yes a w h h2
    · have e : elOk a = false := elOk_no.2 (by omega)
      rw [e]
      go_enter Tryd.func35, Tryd.ntmps35
      go_wp2
      go_ret
      exact ⟨rfl, rfl⟩
  · have e : elOk a = false := elOk_no.2 (by omega)
    rw [e]
    go_enter Tryd.func35, Tryd.ntmps35
    go_wp2
    go_ret
    exact ⟨rfl, rfl⟩

set_option maxRecDepth 100000 in
set_option maxHeartbeats 400000 in
theorem l1All_calls (v : Value) (xs : List Int) (w : World) (h : Rd w v xs) :
    Calls Tryd.prog 21 #[v] w fun e w' => e = .returned (.bool (xs.all elOk)) ∧ w = w' := by
  obtain ⟨a, cap, rfl, h1, h2, h3⟩ := h
  have hm : xs.length ≤ maxLen := by omega
  unfold maxLen at hm
  have H := hide h3
  clear h3 h2
  go_enter Tryd.func21, Tryd.ntmps21
  go_wp2
  go_loop [7] (fun vi => ∃ k : Nat, k ≤ xs.length ∧ vi = .int .i64 k ∧ ∀ i, i < k → elOk (xs.getD i 0) = true) (fun vi => xs.length - (intOf vi).toNat)
  case atStart => exact ⟨0, Nat.zero_le _, rfl, fun i hi => by omega⟩
  case round =>
    obtain ⟨k, hk, rfl, hall⟩ := hrel
    have A := hide hall
    clear hall
    by_cases hlt : k < xs.length
    · rcases H.out with h3 | ⟨b, off, rfl, hbs, hc⟩
      · subst h3; simp at hlt
      have hc1 := hc k hlt
      clear hc
      obtain ⟨z, hz⟩ : ∃ z, z = xs.getD k 0 := ⟨_, rfl⟩
      rw [← hz] at hc1
      have Z := hide hz
      clear hz
      cases hel : elOk z with
      | true =>
        go_wp2_with (go_at_call 35; refine (l1Gf_calls _ _).mono ?_; rintro e w' ⟨rfl, rfl⟩)
        go_round
        case rel =>
          refine ⟨k + 1, by omega, by go_num, fun i hi => ?_⟩
          by_cases e : i = k
          · subst e; rw [← Z.out]; exact hel
          · exact A.out i (by omega)
        case measure => simp [intOf]; omega
      | false =>
        go_wp2_with (go_at_call 35; refine (l1Gf_calls _ _).mono ?_; rintro e w' ⟨rfl, rfl⟩)
        go_ret
        exact ⟨ret_bool (by rw [all_bad hlt (by rw [← Z.out]; exact hel)]), rfl⟩
    · obtain rfl : k = xs.length := by omega
      go_wp2
      go_ret
      exact ⟨ret_bool (by rw [all_of_getD.2 A.out]), rfl⟩

theorem quiet_same {P : Program} {f : FuncId} {args : Array Value} {w : World} {n : Nat} {v : Value}
    (h : Calls P f args (w.drewN n) fun e w' => e = .returned v ∧ w.drewN n = w') : Calls P f args (w.drewN n) fun e w'' => e = .returned v ∧ ∃ m, w'' = w.drewN m :=
  h.mono fun _ _ ⟨he, hm⟩ => ⟨he, n, hm.symm⟩
set_option maxRecDepth 100000 in
set_option maxHeartbeats 400000 in
theorem areElements_calls (v : Value) (xs : List Int) (w : World) (h : Rd w v xs) :
    Calls Tryd.prog 57 #[v] w fun e w' => e = .returned (.bool (xs.all elOk)) ∧ w = w' := by
  obtain ⟨a, cap, rfl, h1, h2, h3⟩ := h
  have hm : xs.length ≤ maxLen := by omega
  unfold maxLen at hm
  have H := hide h3
  clear h3 h2
  go_enter Tryd.func57, Tryd.ntmps57
  go_wp2
  go_loop [7] (fun vi => ∃ k : Nat, k ≤ xs.length ∧ vi = .int .i64 k ∧ ∀ i, i < k → elOk (xs.getD i 0) = true) (fun vi => xs.length - (intOf vi).toNat)
  case atStart => exact ⟨0, Nat.zero_le _, rfl, fun i hi => by omega⟩
  case round =>
    obtain ⟨k, hk, rfl, hall⟩ := hrel
    have A := hide hall
    clear hall
    by_cases hlt : k < xs.length
    · rcases H.out with h3 | ⟨b, off, rfl, hbs, hc⟩
      · subst h3; simp at hlt
      have hc1 := hc k hlt
      clear hc
      obtain ⟨z, hz⟩ : ∃ z, z = xs.getD k 0 := ⟨_, rfl⟩
      rw [← hz] at hc1
      have Z := hide hz
      clear hz
      cases hel : elOk z with
      | true =>
        go_wp2_with (go_at_call 71; refine (isE_calls _ _).mono ?_; rintro e w' ⟨rfl, rfl⟩)
        go_round
        case rel =>
          refine ⟨k + 1, by omega, by go_num, fun i hi => ?_⟩
          by_cases e : i = k
          · subst e; rw [← Z.out]; exact hel
          · exact A.out i (by omega)
        case measure => simp [intOf]; omega
      | false =>
        go_wp2_with (go_at_call 71; refine (isE_calls _ _).mono ?_; rintro e w' ⟨rfl, rfl⟩)
        go_ret
        exact ⟨ret_bool (by rw [all_bad hlt (by rw [← Z.out]; exact hel)]), rfl⟩
    · obtain rfl : k = xs.length := by omega
      go_wp2
      go_ret
      exact ⟨ret_bool (by rw [all_of_getD.2 A.out]), rfl⟩
set_option maxRecDepth 100000 in
theorem l1In_calls (a lo hi : Int) (w : World) :
    Calls Tryd.prog 36 #[.int .i64 a, .int .i64 lo, .int .i64 hi] w fun e w' => e = .returned (.bool (decide (lo ≤ a ∧ a ≤ hi))) ∧ w = w' := by
  by_cases h : lo ≤ a
  · by_cases h2 : a ≤ hi
    · rw [decide_eq_true ⟨h, h2⟩]
      exact l1In_yes a lo hi w h h2
    · rw [decide_eq_false (fun e => h2 e.2)]
      go_enter Tryd.func36, Tryd.ntmps36
      go_wp2
      go_ret
      exact ⟨rfl, rfl⟩
  · rw [decide_eq_false (fun e => h e.1)]
    go_enter Tryd.func36, Tryd.ntmps36
    go_wp2
    go_ret
    exact ⟨rfl, rfl⟩
end Gf
end Go.Proofs.YtdoldboefceliaaDoor

namespace Go.Proofs.YtdoldboefceliaaDoor
open Go.RowKit

theorem all_yes {α : Type} {l : List α} {d : α} {p : α → Bool} (h : ∀ i, i < l.length → p (l.getD i d) = true) : l.all p = true := by
  rw [List.all_eq_true]
  intro x hx
  obtain ⟨i, hi, rfl⟩ := List.mem_iff_getElem.1 hx
  have := h i hi
  rwa [List.getD_eq_getElem?_getD, List.getElem?_eq_getElem hi, Option.getD_some] at this
theorem all_at {α : Type} {l : List α} {d : α} {p : α → Bool} (h : l.all p = true) (i : Nat) (hi : i < l.length) : p (l.getD i d) = true := by
  rw [List.getD_eq_getElem?_getD, List.getElem?_eq_getElem hi, Option.getD_some]
  exact List.all_eq_true.1 h _ (List.getElem_mem hi)
theorem all_no {α : Type} {l : List α} {d : α} {p : α → Bool} {k : Nat} (hk : k < l.length) (h : p (l.getD k d) = false) : l.all p = false := by
  cases hh : l.all p with
  | false => rfl
  | true => rw [all_at hh k hk] at h; cases h
theorem Rd.row {w : World} {a : Option Addr} {n cap : Nat} {xs : List Int} (h : Rd w (.slice a n cap) xs) (i : Nat) (hi : i < xs.length) :
    ∃ b off u, a = some ⟨b, off, none⟩ ∧ w.cell? ⟨b, off + i, none⟩ = some u ∧ u = .int .i64 (xs.getD i 0) := by
  obtain ⟨a', cap', hv, _, _, h3⟩ := h
  simp only [Value.slice.injEq] at hv
  obtain ⟨rfl, rfl, rfl⟩ := hv
  rcases h3 with h3 | ⟨b, off, rfl, hlt, hc⟩
  · subst h3; simp at hi
  · exact ⟨b, off, _, rfl, hc i hi, rfl⟩

set_option maxRecDepth 100000 in
theorem isSide_calls (n : Int) (w : World) :
    Calls Tryd.prog 73 #[.int .i64 n] w fun e w' => e = .returned (.bool (decide (1 ≤ n ∧ n ≤ 8))) ∧ w = w' := by
  by_cases h : 1 ≤ n
  · by_cases h2 : n ≤ 8
    · rw [decide_eq_true ⟨h, h2⟩]
      go_enter Tryd.func73, Tryd.ntmps73
      go_wp2
      go_ret
      exact ⟨rfl, rfl⟩
    · rw [decide_eq_false (fun e => h2 e.2)]
      go_enter Tryd.func73, Tryd.ntmps73
      go_wp2
      go_ret
      exact ⟨rfl, rfl⟩
  · rw [decide_eq_false (fun e => h e.1)]
    go_enter Tryd.func73, Tryd.ntmps73
    go_wp2
    go_ret
    exact ⟨rfl, rfl⟩
set_option maxRecDepth 100000 in
theorem isLong_calls (u : Value) (r : List Int) (n : Int) (g : Nat) (w : World) (h : Rd w u r) (hg : w.cell? ⟨g, 0, none⟩ = some (.int .i64 n)) :
    Calls Tryd.prog 27 #[u, .pointer (some ⟨g, 0, none⟩)] w fun e w' => e = .returned (.bool ((fun r : List Int => decide ((r.length : Int) = n)) r)) ∧ w = w' := by
  obtain ⟨a, cap, rfl, h1, h2, h3⟩ := h
  clear h3 h2 h1
  by_cases h : (r.length : Int) = n
  · simp only [decide_eq_true h]
    have e : ((r.length : Int) == n) = true := by simp [h]
    have H := hide h
    clear h
    go_enter Tryd.func27, Tryd.ntmps27
    go_wp2
    go_ret
    exact ⟨rfl, rfl⟩
  · simp only [decide_eq_false h]
    have e : ((r.length : Int) == n) = false := by simp [h]
    go_enter Tryd.func27, Tryd.ntmps27
    go_wp2
    go_ret
    exact ⟨rfl, rfl⟩
theorem areEls_calls (v : Value) (xs : List Int) (w : World) (h : Rd w v xs) :
    Calls Tryd.prog 57 #[v] w fun e w' => e = .returned (.bool ((fun r : List Int => r.all Gf.elOk) xs)) ∧ w = w' := Gf.areElements_calls v xs w h
set_option maxRecDepth 100000 in
set_option maxHeartbeats 800000 in
theorem allLong_calls (v : Value) (m : List (List Int)) (n : Int) (g : Nat) (w : World) (h : RdM w v m) (hg : w.cell? ⟨g, 0, none⟩ = some (.int .i64 n)) :
    Calls Tryd.prog 26 #[v, .func (.func 27) #[] #[.pointer (some ⟨g, 0, none⟩)]] w fun e w' => e = .returned (.bool (m.all (fun r : List Int => decide ((r.length : Int) = n)))) ∧ w = w' := by
  have R := hide h
  obtain ⟨a, cap, rfl, h1, h2, h3⟩ := h
  have hm : m.length ≤ maxLen := by omega
  unfold maxLen at hm
  obtain ⟨p, hp⟩ : ∃ p, p = (fun r : List Int => decide ((r.length : Int) = n)) := ⟨_, rfl⟩
  rw [← hp]
  have HP := hide hp
  clear h3 h2 h1 hp
  go_enter Tryd.func26, Tryd.ntmps26
  go_wp2
  go_loop [9] (fun vi => ∃ k : Nat, k ≤ m.length ∧ vi = .int .i64 k ∧ ∀ i, i < k → p (m.getD i []) = true) (fun vi => m.length - (intOf vi).toNat)
  case atStart => exact ⟨0, Nat.zero_le _, rfl, fun i hi => by omega⟩
  case round =>
    obtain ⟨k, hk, rfl, hall⟩ := hrel
    have A := hide hall
    clear hall
    by_cases hlt : k < m.length
    · have hlt' : (k : Int) < (m.length : Int) := by omega
      obtain ⟨b, off, u, rfl, hc1, hu⟩ := R.out.row k hlt
      obtain ⟨r, hr⟩ : ∃ r, r = m.getD k [] := ⟨_, rfl⟩
      rw [← hr] at hu
      have U := hide hu
      have Hr := hide hr
      clear hu hr
      obtain ⟨q, hq⟩ : ∃ q, q = p r := ⟨_, rfl⟩
      have Q := hide hq
      have HC : Hid (Calls Tryd.prog 27 #[u, .pointer (some ⟨g, 0, none⟩)] w fun e w' => e = .returned (.bool q) ∧ w = w') := by
        rw [hq, HP.out]
        exact isLong_calls _ r _ _ _ U.out hg
      cases q with
      | true =>
        clear hq
        go_wp2_with (go_at_call 27; refine HC.out.mono ?_; rintro e w' ⟨rfl, rfl⟩)
        go_round
        case rel =>
          refine ⟨k + 1, by omega, by go_num, fun i hi => ?_⟩
          by_cases e : i = k
          · subst e; rw [← Hr.out, ← Q.out]
          · exact A.out i (by omega)
        case measure => simp [intOf]; omega
      | false =>
        clear hq
        go_wp2_with (go_at_call 27; refine HC.out.mono ?_; rintro e w' ⟨rfl, rfl⟩)
        go_ret
        exact ⟨Gf.ret_bool (all_no hlt (by rw [← Hr.out, ← Q.out])).symm, rfl⟩
    · obtain rfl : k = m.length := by omega
      go_wp2
      go_ret
      exact ⟨Gf.ret_bool (all_yes A.out).symm, rfl⟩
set_option maxRecDepth 100000 in
set_option maxHeartbeats 800000 in
theorem allEls_calls (v : Value) (m : List (List Int))  (w : World) (h : RdM w v m) :
    Calls Tryd.prog 26 #[v, .func (.func 57) #[] #[]] w fun e w' => e = .returned (.bool (m.all (fun r : List Int => r.all Gf.elOk))) ∧ w = w' := by
  have R := hide h
  obtain ⟨a, cap, rfl, h1, h2, h3⟩ := h
  have hm : m.length ≤ maxLen := by omega
  unfold maxLen at hm
  obtain ⟨p, hp⟩ : ∃ p, p = (fun r : List Int => r.all Gf.elOk) := ⟨_, rfl⟩
  rw [← hp]
  have HP := hide hp
  clear h3 h2 h1 hp
  go_enter Tryd.func26, Tryd.ntmps26
  go_wp2
  go_loop [9] (fun vi => ∃ k : Nat, k ≤ m.length ∧ vi = .int .i64 k ∧ ∀ i, i < k → p (m.getD i []) = true) (fun vi => m.length - (intOf vi).toNat)
  case atStart => exact ⟨0, Nat.zero_le _, rfl, fun i hi => by omega⟩
  case round =>
    obtain ⟨k, hk, rfl, hall⟩ := hrel
    have A := hide hall
    clear hall
    by_cases hlt : k < m.length
    · have hlt' : (k : Int) < (m.length : Int) := by omega
      obtain ⟨b, off, u, rfl, hc1, hu⟩ := R.out.row k hlt
      obtain ⟨r, hr⟩ : ∃ r, r = m.getD k [] := ⟨_, rfl⟩
      rw [← hr] at hu
      have U := hide hu
      have Hr := hide hr
      clear hu hr
      obtain ⟨q, hq⟩ : ∃ q, q = p r := ⟨_, rfl⟩
      have Q := hide hq
      have HC : Hid (Calls Tryd.prog 57 #[u] w fun e w' => e = .returned (.bool q) ∧ w = w') := by
        rw [hq, HP.out]
        exact areEls_calls _ r _ U.out
      cases q with
      | true =>
        clear hq
        go_wp2_with (go_at_call 57; refine HC.out.mono ?_; rintro e w' ⟨rfl, rfl⟩)
        go_round
        case rel =>
          refine ⟨k + 1, by omega, by go_num, fun i hi => ?_⟩
          by_cases e : i = k
          · subst e; rw [← Hr.out, ← Q.out]
          · exact A.out i (by omega)
        case measure => simp [intOf]; omega
      | false =>
        clear hq
        go_wp2_with (go_at_call 57; refine HC.out.mono ?_; rintro e w' ⟨rfl, rfl⟩)
        go_ret
        exact ⟨Gf.ret_bool (all_no hlt (by rw [← Hr.out, ← Q.out])).symm, rfl⟩
    · obtain rfl : k = m.length := by omega
      go_wp2
      go_ret
      exact ⟨Gf.ret_bool (all_yes A.out).symm, rfl⟩

set_option maxRecDepth 100000 in
theorem areAllLong_calls (v : Value) (m : List (List Int)) (n : Int) (w : World) (h : RdM w v m) :
    Calls Tryd.prog 14 #[v, .int .i64 n] w fun e w' => e = .returned (.bool (m.all fun r : List Int => decide ((r.length : Int) = n))) ∧ Below w.heap.size w w' := by
  have R := hide h
  have S : ∃ a n c, v = .slice a n c := by
    obtain ⟨a, cap, rfl, _⟩ := h
    exact ⟨_, _, _, rfl⟩
  obtain ⟨a, k, c, rfl⟩ := S
  clear h
  go_enter Tryd.func14, Tryd.ntmps14
  go_wp2_with fail
  refine (allLong_calls _ m n _ _ (R.out.below ((Below.refl _ _).alloc (Nat.le_refl _) _)) (World.cell?_alloc_at _ _ _ _ rfl)).mono ?_
  rintro e w' ⟨rfl, rfl⟩
  go_wp2
  go_ret
  exact ⟨rfl, (Below.refl _ _).alloc (Nat.le_refl _) _⟩

/-- What both call a matrix. -/
def goodM (m : List (List Int)) : Bool :=
  decide (1 ≤ (m.length : Int) ∧ (m.length : Int) ≤ 8) && (decide (1 ≤ ((m.getD 0 []).length : Int) ∧ ((m.getD 0 []).length : Int) ≤ 8) && (m.all (fun r : List Int => decide ((r.length : Int) = ((m.getD 0 []).length : Int))) && m.all (fun r : List Int => r.all Gf.elOk)))
theorem goodM_rows {m : List (List Int)} (h : goodM m = true) : 1 ≤ m.length ∧ m.length ≤ 8 ∧ 1 ≤ (m.getD 0 []).length ∧ (m.getD 0 []).length ≤ 8 ∧ ∀ i, i < m.length → (m.getD i []).length = (m.getD 0 []).length ∧ (m.getD i []).all Gf.elOk = true := by
  simp only [goodM, Bool.and_eq_true, decide_eq_true_eq] at h
  obtain ⟨h1, h2, h3, h4⟩ := h
  refine ⟨by omega, by omega, by omega, by omega, fun i hi => ⟨?_, all_at h4 i hi⟩⟩
  have := all_at (d := []) h3 i hi
  simp only [decide_eq_true_eq] at this
  omega
theorem goodM_tot {m : List (List Int)} (h : goodM m = true) : m.length + tot m ≤ 1048576 := by
  obtain ⟨h1, h2, h3, h4, h5⟩ := goodM_rows h
  have : ∀ k, k ≤ m.length → tot (m.take k) ≤ 8 * k := by
    intro k
    induction k with
    | zero => intro _; simp [tot]
    | succ k ih =>
      intro hk
      rw [tot_take_succ m k (by omega)]
      have := ih (by omega)
      have := (h5 k (by omega)).1
      omega
  have := this m.length (Nat.le_refl _)
  rw [List.take_length] at this
  omega

end Go.Proofs.YtdoldboefceliaaDoor

namespace Go.Proofs.YtdoldboefceliaaDoor
open Go.RowKit

/-- All are elements, and no two are alike. -/
def unl (l : List Int) : Bool := decide (l.Pairwise (· ≠ ·)) && l.all Gf.elOk
theorem unl_nil : unl [] = true := by simp [unl]
theorem unl_snoc (p : List Int) (a : Int) : unl (p ++ [a]) = (unl p && (Gf.elOk a && !p.contains a)) := by
  unfold unl
  rw [List.all_append]
  have e : decide ((p ++ [a]).Pairwise (· ≠ ·)) = (decide (p.Pairwise (· ≠ ·)) && !p.contains a) := by
    rw [Bool.eq_iff_iff]
    simp only [decide_eq_true_eq, Bool.and_eq_true, List.pairwise_append, Bool.not_eq_true', List.contains_eq_mem, decide_eq_false_iff_not]
    constructor
    · rintro ⟨h1, _, h3⟩
      exact ⟨h1, fun hm => h3 a hm a (by simp) rfl⟩
    · rintro ⟨h1, h2⟩
      refine ⟨h1, by simp, fun x hx y hy => ?_⟩
      simp at hy
      subst hy
      intro e
      subst e
      exact h2 hx
  rw [e]
  simp only [List.all_cons, List.all_nil, Bool.and_true]
  cases decide (p.Pairwise (· ≠ ·)) <;> cases p.contains a <;> cases p.all Gf.elOk <;> cases Gf.elOk a <;> rfl
theorem unl_app {p : List Int} (h : unl p = false) (r : List Int) : unl (p ++ r) = false := by
  cases e : unl (p ++ r) with
  | false => rfl
  | true =>
    unfold unl at e h
    simp only [Bool.and_eq_true, decide_eq_true_eq, List.pairwise_append, List.all_append] at e
    rw [decide_eq_true e.1.1, e.2.1] at h
    cases h
theorem unl_els {p : List Int} (h : unl p = true) : p.all Gf.elOk = true := by
  unfold unl at h
  simp only [Bool.and_eq_true] at h
  exact h.2
theorem take_snocM {α : Type} (l : List α) (d : α) (k : Nat) (h : k < l.length) : l.take (k + 1) = l.take k ++ [l.getD k d] := by
  rw [List.take_succ_eq_append_getElem h, List.getD_eq_getElem?_getD, List.getElem?_eq_getElem h, Option.getD_some]
theorem elOk_facts {a : Int} (h : Gf.elOk a = true) : 0 ≤ a ∧ a < 256 := by
  simp only [Gf.elOk, decide_eq_true_eq] at h
  omega
/-- Which of the 256 have been seen. -/
def seenL (p : List Int) : List Value := (List.range 256).map fun a : Nat => Value.bool (p.contains (a : Int))
theorem seenL_length (p : List Int) : (seenL p).length = 256 := by simp [seenL]
theorem seenL_nil : seenL [] = List.replicate 256 (Value.bool false) := by
  rw [List.eq_replicate_iff]
  simp [seenL]
theorem seenL_get (p : List Int) (a : Nat) (h : a < 256) : (seenL p)[a]? = some (.bool (p.contains (a : Int))) := by
  simp [seenL, h]
theorem seenL_set (p : List Int) (a : Nat) (h : a < 256) : (seenL p).set a (.bool true) = seenL (p ++ [(a : Int)]) := by
  unfold seenL
  apply List.ext_getElem?
  intro i
  rw [List.getElem?_set]
  by_cases hi : i < 256
  · by_cases e : a = i
    · subst e; simp [hi]
    · rw [if_neg e]
      simp only [List.getElem?_map, List.getElem?_range hi, Option.map_some, Option.some.injEq, Value.bool.injEq, List.contains_eq_mem, List.mem_append, List.mem_singleton]
      have : ¬ ((i : Int) = (a : Int)) := by omega
      simp [this]
  · have : ¬ (a = i) := by omega
    rw [if_neg this]
    simp [hi]
/-- Cauchy's rows. -/
def cauRow (a : Int) (ys : List Int) : List Int := ys.map fun b => ((Gf.inv (a.toNat ^^^ b.toNat) : Nat) : Int)
def cauM (xs ys : List Int) : List (List Int) := xs.map fun a => cauRow a ys
end Go.Proofs.YtdoldboefceliaaDoor

namespace Go.Proofs.YtdoldboefceliaaDoor
open Go.RowKit
namespace Gf

theorem pw_step {f x y o T : Nat} (hy : y < 2 ^ f) (hf : f ≤ 17) (ho : o < 256) (hx : x < 256) (hp : 0 < y) (he : pw f x y o = T) :
    ∃ f', pw f' (mul x x) (y / 2) (if y % 2 = 1 then mul o x else o) = T ∧ y / 2 < 2 ^ f' ∧ f' ≤ 17 ∧ mul x x < 256 ∧ (if y % 2 = 1 then mul o x else o) < 256 := by
  cases f with
  | zero => simp at hy; omega
  | succ f =>
    refine ⟨f, he, by rw [Nat.pow_succ] at hy; omega, by omega, mul_lt hx, ?_⟩
    split
    · exact mul_lt ho
    · exact ho
theorem two_pow_17 {f y : Nat} (hf : f ≤ 17) (hy : y < 2 ^ f) : y < 131072 := by
  have : 2 ^ f ≤ 2 ^ 17 := Nat.pow_le_pow_right (by omega) hf
  omega

set_option maxRecDepth 100000 in
set_option maxHeartbeats 400000 in
theorem powE_calls (a n : Int) (w : World) (hT : Tab w) (ha0 : 0 ≤ a) (ha : a < 256) (hn0 : 0 ≤ n) (hn : n ≤ 100000) :
    Calls Tryd.prog 79 #[.int .i64 a, .int .i64 n] w fun e w' => e = .returned (.int .i64 (pow a.toNat n.toNat : Nat)) ∧ w = w' := by
  obtain ⟨A, rfl⟩ := Int.eq_ofNat_of_zero_le ha0
  obtain ⟨B, rfl⟩ := Int.eq_ofNat_of_zero_le hn0
  simp only [Int.toNat_natCast]
  have HT : Hid (Tab w) := hT
  clear hT
  go_enter Tryd.func79, Tryd.ntmps79
  go_wp2
  go_loop [1, 5, 6] (fun vn vo vx => ∃ f x y o : Nat, x < 256 ∧ y < 2 ^ f ∧ f ≤ 17 ∧ o < 256 ∧ vx = .int .i64 x ∧ vn = .int .i64 y ∧ vo = .int .i64 o ∧ pw f x y o = pow A B) (fun vn _ _ => (intOf vn).toNat)
  case atStart => exact ⟨17, A, B, 1, by omega, by omega, by omega, by omega, rfl, rfl, rfl, rfl⟩
  case round =>
    obtain ⟨f, x, y, o, hx, hy, hf, ho, rfl, rfl, rfl, he⟩ := hrel
    have He : Hid (pw f x y o = pow A B) := he
    clear he
    have hy32 := two_pow_17 hf hy
    by_cases hlt : 0 < y
    · have hlt' : (0 : Int) < (y : Int) := by omega
      obtain ⟨f', k1, k2, k3, k4, k5⟩ := pw_step hy hf ho hx hlt He.out
      by_cases hodd : y % 2 = 1
      · rw [if_pos hodd] at k1 k5
        have K : Hid (pw f' (mul x x) (y / 2) (mul o x) = pow A B ∧ y / 2 < 2 ^ f' ∧ f' ≤ 17 ∧ mul x x < 256 ∧ mul o x < 256) := ⟨k1, k2, k3, k4, k5⟩
        clear k1 k2 k3 k4 k5
        have hb : ((y : Int) % 2 == 1) = true := by simp; omega
        go_wp2_with (go_at_call 72; refine (mulE_calls _ _ _ HT.out (by omega) (by omega) (by omega) (by omega)).mono ?_; rintro e w' ⟨rfl, rfl⟩)
        obtain ⟨k1, k2, k3, k4, k5⟩ := K.out
        exact ⟨⟨f', mul x x, y / 2, mul o x, k4, k2, k3, k5, rfl, rfl, rfl, k1⟩, by simp [intOf]; omega⟩
      · rw [if_neg hodd] at k1 k5
        have K : Hid (pw f' (mul x x) (y / 2) o = pow A B ∧ y / 2 < 2 ^ f' ∧ f' ≤ 17 ∧ mul x x < 256 ∧ o < 256) := ⟨k1, k2, k3, k4, k5⟩
        clear k1 k2 k3 k4 k5
        have hb : ((y : Int) % 2 == 1) = false := by simp; omega
        go_wp2_with (go_at_call 72; refine (mulE_calls _ _ _ HT.out (by omega) (by omega) (by omega) (by omega)).mono ?_; rintro e w' ⟨rfl, rfl⟩)
        obtain ⟨k1, k2, k3, k4, k5⟩ := K.out
        exact ⟨⟨f', mul x x, y / 2, o, k4, k2, k3, k5, rfl, rfl, rfl, k1⟩, by simp [intOf]; omega⟩
    · obtain rfl : y = 0 := by omega
      go_wp2
      go_ret
      exact ⟨ret_int (by have := He.out; rw [pw_zero] at this; rw [this]), rfl⟩

set_option maxRecDepth 100000 in
set_option maxHeartbeats 400000 in
theorem l1Pow_calls (a n : Int) (w : World) (ha0 : 0 ≤ a) (ha : a < 256) (hn0 : 0 ≤ n) (hn : n ≤ 100000) :
    Calls Tryd.prog 78 #[.int .i64 a, .int .i64 n] w fun e w' => e = .returned (.int .i64 (pow a.toNat n.toNat : Nat)) ∧ w = w' := by
  obtain ⟨A, rfl⟩ := Int.eq_ofNat_of_zero_le ha0
  obtain ⟨B, rfl⟩ := Int.eq_ofNat_of_zero_le hn0
  simp only [Int.toNat_natCast]
  go_enter Tryd.func78, Tryd.ntmps78
  go_wp2
  go_loop [0, 1, 5] (fun vx vn vo => ∃ f x y o : Nat, x < 256 ∧ y < 2 ^ f ∧ f ≤ 17 ∧ o < 256 ∧ vx = .int .i64 x ∧ vn = .int .i64 y ∧ vo = .int .i64 o ∧ pw f x y o = pow A B) (fun _ vn _ => (intOf vn).toNat)
  case atStart => exact ⟨17, A, B, 1, by omega, by omega, by omega, by omega, rfl, rfl, rfl, rfl⟩
  case round =>
    obtain ⟨f, x, y, o, hx, hy, hf, ho, rfl, rfl, rfl, he⟩ := hrel
    have He : Hid (pw f x y o = pow A B) := he
    clear he
    have hy32 := two_pow_17 hf hy
    by_cases hlt : 0 < y
    · have hlt' : (0 : Int) < (y : Int) := by omega
      obtain ⟨f', k1, k2, k3, k4, k5⟩ := pw_step hy hf ho hx hlt He.out
      have ha1 := i64_and1 y (by omega)
      by_cases hodd : y % 2 = 1
      · rw [if_pos hodd] at k1 k5
        have K : Hid (pw f' (mul x x) (y / 2) (mul o x) = pow A B ∧ y / 2 < 2 ^ f' ∧ f' ≤ 17 ∧ mul x x < 256 ∧ mul o x < 256) := ⟨k1, k2, k3, k4, k5⟩
        clear k1 k2 k3 k4 k5
        have hb : (bits .and .i64 (y : Int) 1 == 1) = true := by rw [ha1]; simp; omega
        clear ha1
        go_wp2_with (go_at_call 69; refine (l1Mul_calls _ _ _ (by omega) (by omega) (by omega) (by omega)).mono ?_; rintro e w' ⟨rfl, rfl⟩)
        obtain ⟨k1, k2, k3, k4, k5⟩ := K.out
        exact ⟨⟨f', mul x x, y / 2, mul o x, k4, k2, k3, k5, rfl, rfl, rfl, k1⟩, by simp [intOf]; omega⟩
      · rw [if_neg hodd] at k1 k5
        have K : Hid (pw f' (mul x x) (y / 2) o = pow A B ∧ y / 2 < 2 ^ f' ∧ f' ≤ 17 ∧ mul x x < 256 ∧ o < 256) := ⟨k1, k2, k3, k4, k5⟩
        clear k1 k2 k3 k4 k5
        have hb : (bits .and .i64 (y : Int) 1 == 1) = false := by rw [ha1]; simp; omega
        clear ha1
        go_wp2_with (go_at_call 69; refine (l1Mul_calls _ _ _ (by omega) (by omega) (by omega) (by omega)).mono ?_; rintro e w' ⟨rfl, rfl⟩)
        obtain ⟨k1, k2, k3, k4, k5⟩ := K.out
        exact ⟨⟨f', mul x x, y / 2, o, k4, k2, k3, k5, rfl, rfl, rfl, k1⟩, by simp [intOf]; omega⟩
    · obtain rfl : y = 0 := by omega
      go_wp2
      go_ret
      exact ⟨ret_int (by have := He.out; rw [pw_zero] at this; rw [this]), rfl⟩
end Gf
end Go.Proofs.YtdoldboefceliaaDoor
