/-
  A frame's bytes, and what is read from them: mathematics over lists of bytes, no program. No condition but those that each fact names. Good frames: the program's function and its model's, call by call, and a frame handed over. No condition. A row of bytes that was made, written byte by byte and by copies; two bytes of a number, four of a sum: the program's functions call by call. Each contract says what it asks. A frame's bytes: the program's function, call by call. No condition but a bound on the body's length. Bytes of a number, a number of bytes, a frame's bytes: the model's functions, call by call. Each contract says what it asks. Slices of texts: what is read, what is owned, and what the laws' own small functions do with them (copy, compare, measure, mark, look whether the marks are held), call by call. Each contract says what it asks.
-/
import Derived.Test.YthmijjcddjlebaaDedupB1
import Derived.Laws.AppendOwnNone
import Derived.Deep.RegionHeld3
namespace Go.Proofs.Ythmijjcddjlebaa
open Go.RowKit

/-- Four bytes of a sum, the lowest first. -/
def low4 (n : Nat) : List Nat := [n % 256, n / 256 % 256, n / 65536 % 256, n / 16777216 % 256]
/-- All of a frame ahead of its sum. -/
def headB (K A E : Nat) (b : List Nat) : List Nat := [K, A / 256, A % 256, E / 256, E % 256, b.length] ++ (b ++ List.replicate (18 - b.length) 0)
def frB (K A E : Nat) (b : List Nat) : List Nat := headB K A E b ++ low4 (Crc.on 0 (headB K A E b))
theorem low4_length (n : Nat) : (low4 n).length = 4 := rfl
theorem low4_small (n : Nat) : ∀ b ∈ low4 n, b < 256 := by
  intro b hb
  simp only [low4, List.mem_cons, List.not_mem_nil, or_false] at hb
  omega
theorem headB_length {K A E : Nat} {b : List Nat} (h : b.length ≤ 16) : (headB K A E b).length = 24 := by
  unfold headB
  rw [List.length_append, List.length_append, List.length_replicate]
  simp
  omega
theorem headB_small {K A E : Nat} {b : List Nat} (hK : K < 256) (hA : A < 65536) (hE : E < 65536) (h : b.length ≤ 16) (hb : ∀ x ∈ b, x < 256) : ∀ x ∈ headB K A E b, x < 256 := by
  intro x hx
  unfold headB at hx
  rw [List.mem_append, List.mem_append] at hx
  rcases hx with hx | hx | hx
  · simp only [List.mem_cons, List.not_mem_nil, or_false] at hx
    omega
  · exact hb x hx
  · have := (List.mem_replicate.1 hx).2
    omega
theorem frB_length {K A E : Nat} {b : List Nat} (h : b.length ≤ 16) : (frB K A E b).length = 28 := by
  unfold frB
  rw [List.length_append, headB_length h, low4_length]
theorem frB_small {K A E : Nat} {b : List Nat} (hK : K < 256) (hA : A < 65536) (hE : E < 65536) (h : b.length ≤ 16) (hb : ∀ x ∈ b, x < 256) : ∀ x ∈ frB K A E b, x < 256 := by
  intro x hx
  unfold frB at hx
  rw [List.mem_append] at hx
  rcases hx with hx | hx
  · exact headB_small hK hA hE h hb x hx
  · exact low4_small _ x hx
theorem frB_take {K A E : Nat} {b : List Nat} (h : b.length ≤ 16) : (frB K A E b).take 24 = headB K A E b := by
  unfold frB
  rw [← headB_length (K := K) (A := A) (E := E) h, List.take_left]
theorem frB_drop {K A E : Nat} {b : List Nat} (h : b.length ≤ 16) : (frB K A E b).drop 24 = low4 (Crc.on 0 (headB K A E b)) := by
  unfold frB
  rw [← headB_length (K := K) (A := A) (E := E) h, List.drop_left]
theorem frB_body {K A E : Nat} {b : List Nat} : ((frB K A E b).drop 6).take b.length = b := by
  show ((b ++ List.replicate (18 - b.length) 0) ++ low4 (Crc.on 0 (headB K A E b))).take b.length = b
  rw [List.append_assoc, List.take_left]
/-- A good frame. -/
abbrev goodF (K A E : Int) (n : Nat) : Prop := ((1 ≤ K ∧ K ≤ 255) ∧ (0 ≤ A ∧ A ≤ 60000)) ∧ (0 ≤ E ∧ E ≤ 60000) ∧ n ≤ 16
def goodD (K A E : Int) (n : Nat) : Bool := decide (goodF K A E n)
theorem goodD_yes {K A E : Int} {n : Nat} (h : goodF K A E n) : goodD K A E n = true := decide_eq_true h
theorem goodD_no {K A E : Int} {n : Nat} (h : ¬ goodF K A E n) : goodD K A E n = false := decide_eq_false h
/-- What FrameBytes answers. -/
def frR (K A E : Int) (b : ByteArray) : ByteArray × Bool :=
  if goodF K A E b.size then (ofN (frB K.toNat A.toNat E.toNat (bs b)), true) else (⟨#[]⟩, false)
/-- What is in a frame that is read. -/
structure Fr where
  K : Int
  A : Int
  E : Int
  B : ByteArray
  code : Int
  ok : Bool
def frNo (c : Int) : Fr := ⟨0, 0, 0, ⟨#[]⟩, c, false⟩
def kindOf (l : List Nat) : Nat := l.getD 0 0
def atOf (l : List Nat) : Nat := l.getD 1 0 * 256 + l.getD 2 0
def epochOf (l : List Nat) : Nat := l.getD 3 0 * 256 + l.getD 4 0
def longOf (l : List Nat) : Nat := l.getD 5 0
def bodyOf (l : List Nat) : List Nat := (l.drop 6).take (longOf l)
/-- What ReadFrame answers. -/
def rdR (s : ByteArray) : Fr :=
  if s.size = 28 then
    if (bs s).drop 24 = low4 (Crc.on 0 ((bs s).take 24)) then
      if longOf (bs s) ≤ 16 ∧ goodF (kindOf (bs s)) (atOf (bs s)) (epochOf (bs s)) (longOf (bs s)) ∧ frB (kindOf (bs s)) (atOf (bs s)) (epochOf (bs s)) (bodyOf (bs s)) = bs s then
        ⟨kindOf (bs s), atOf (bs s), epochOf (bs s), ofN (bodyOf (bs s)), 0, true⟩
      else frNo 3
    else frNo 2
  else frNo 1
/-- What CheckFrame answers. -/
def ckR (s : ByteArray) (kind at_ least : Int) : Fr :=
  if (rdR s).ok = true then
    if (rdR s).K = kind then if (rdR s).A = at_ then if least ≤ (rdR s).E then rdR s else frNo 5 else frNo 4 else frNo 3
  else frNo (rdR s).code
theorem bs_inj {s t : ByteArray} (h : bs s = bs t) : s = t := by rw [← ofN_bs s, ← ofN_bs t, h]
theorem fr_eq {a b : Fr} (h1 : a.K = b.K) (h2 : a.A = b.A) (h3 : a.E = b.E) (h4 : a.B = b.B) (h5 : a.code = b.code) (h6 : a.ok = b.ok) : a = b := by
  cases a; cases b; simp_all
/-- What was put into a frame's bytes is read. -/
theorem rd_fr {K A E : Int} {b : ByteArray} (hg : goodF K A E b.size) : rdR (frR K A E b).1 = ⟨K, A, E, b, 0, true⟩ := by
  have hg' := hg
  obtain ⟨⟨⟨k0, k1⟩, a0, a1⟩, ⟨e0, e1⟩, hn⟩ := hg
  obtain ⟨k, rfl⟩ := Int.eq_ofNat_of_zero_le (show 0 ≤ K by omega)
  obtain ⟨a, rfl⟩ := Int.eq_ofNat_of_zero_le a0
  obtain ⟨e, rfl⟩ := Int.eq_ofNat_of_zero_le e0
  have hl : (bs b).length ≤ 16 := by rw [bs_length]; exact hn
  have e1' : (frR k a e b).1 = ofN (frB k a e (bs b)) := by unfold frR; rw [if_pos hg']; rfl
  have eb : bs (ofN (frB k a e (bs b))) = frB k a e (bs b) := bs_ofN (frB_small (by omega) (by omega) (by omega) hl (bs_lt b))
  have hk : kindOf (frB k a e (bs b)) = k := rfl
  have ha : atOf (frB k a e (bs b)) = a := by
    show a / 256 * 256 + a % 256 = a
    omega
  have he : epochOf (frB k a e (bs b)) = e := by
    show e / 256 * 256 + e % 256 = e
    omega
  have hlo : longOf (frB k a e (bs b)) = b.size := by
    show (bs b).length = b.size
    exact bs_length b
  have hbo : bodyOf (frB k a e (bs b)) = bs b := by
    unfold bodyOf
    rw [hlo, ← bs_length b]
    exact frB_body
  rw [e1']
  unfold rdR
  rw [ofN_size, frB_length hl, if_pos rfl, eb, frB_take hl, frB_drop hl, if_pos rfl, hk, ha, he, hlo, hbo, if_pos ⟨hn, hg', rfl⟩, ofN_bs]
end Go.Proofs.Ythmijjcddjlebaa

namespace Go.Proofs.Ythmijjcddjlebaa
open Go.RowKit

theorem ret_bool {a b : Bool} (h : a = b) : Ending.returned (.bool a) = .returned (.bool b) := by rw [h]
theorem below_box (w : World) (o : Obj) : Below w.heap.size w (w.alloc o) := (Below.refl _ _).alloc (Nat.le_refl _) o

end Go.Proofs.Ythmijjcddjlebaa

namespace Go.Proofs.Ythmijjcddjlebaa
open Go.RowKit

def u8v (b : Nat) : Value := .int .u8 (b : Int)
/-- Block g is a row of just these bytes. -/
def ZRow (w : World) (g : Nat) (l : List Nat) : Prop := w.heap[g]? = some (.cells (l.map u8v).toArray 5 (0, 0))
theorem ZRow.lt {w : World} {g : Nat} {l : List Nat} (h : ZRow w g l) : g < w.heap.size := (Array.getElem?_eq_some_iff.1 h).1
theorem ZRow.cell {w : World} {g : Nat} {l : List Nat} (h : ZRow w g l) (i : Nat) (hi : i < l.length) : w.cell? ⟨g, i, none⟩ = some (.int .u8 (l.getD i 0 : Nat)) := by
  rw [cell_of_row w g i _ _ _ h, List.getElem?_toArray, List.getElem?_map, List.getD_eq_getElem?_getD, List.getElem?_eq_getElem hi]
  rfl
theorem ZRow.frozen {w : World} {g : Nat} {l : List Nat} (h : ZRow w g l) (i : Nat) : w.frozen? ⟨g, i, none⟩ = false := frozen_of_row w g i _ _ h
theorem ZRow.set {w : World} {g : Nat} {l : List Nat} (h : ZRow w g l) (i v : Nat) : ZRow (w.setCell ⟨g, i, none⟩ (.int .u8 (v : Nat))) g (l.set i v) := by
  have := heap_setCell_same w g i _ _ (Value.int .u8 (v : Nat)) h
  unfold ZRow
  rw [this, List.map_set]
  congr 2
  simp [u8v]
theorem ZRow.drew {w : World} {g : Nat} {l : List Nat} (h : ZRow w g l) : ZRow w.drew g l := h
theorem ZRow.kept {w w' : World} {g : Nat} {l : List Nat} (h : ZRow w g l) (hb : Below w.heap.size w w') : ZRow w' g l := by
  have hl := h.lt
  unfold ZRow at h ⊢
  rw [hb.block g hl]
  exact h
theorem ZRow.conv {w : World} {g n cap : Nat} {l : List Nat} (h : ZRow w g l) (hl : ∀ b ∈ l, b < 256) (hn : n ≤ l.length) :
    (convert 22 9 (.slice (some ⟨g, 0, none⟩) n cap)).run Try.prog w = .ok (.string (ofN (l.take n))) w := by
  have := run_convert_bytes_back (P := Try.prog) w 22 9 5 ⟨g, 0, none⟩ cap ((l.take n).map UInt8.ofNat) Try.underlying22 Try.underlying5 Try.underlying9 (fun j hj => by
    have hj' : j < n := by simp at hj; omega
    have hadd : (⟨g, 0, none⟩ : Addr).add j = ⟨g, 0 + j, none⟩ := by unfold Addr.add; split <;> simp_all
    rw [hadd, Nat.zero_add, h.cell j (by omega), List.getD_eq_getElem?_getD, List.getElem?_eq_getElem (by omega), List.getElem_map, List.getElem_take, Option.getD_some]
    rw [UInt8.toNat_ofNat', Nat.mod_eq_of_lt (hl _ (List.getElem_mem _))])
  rw [List.length_map, List.length_take, Nat.min_eq_left hn] at this
  exact this
theorem zrow_made {w : World} {base g n : Nat} (h : w.ownsRow base 5 1 (.slice (some ⟨g, 0, none⟩) n n) n (List.replicate n (.int .u8 0))) : ZRow w g (List.replicate n 0) := by
  rcases h.2 with ⟨h', _⟩ | ⟨g', cap', cur, h', _, hg, _, _, hs, ht⟩
  · simp at h'
  · simp at h'
    obtain ⟨rfl, rfl⟩ := h'
    unfold ZRow
    rw [hg]
    congr 2
    have e : cur.toList = List.replicate n (.int .u8 0) := by
      rw [← ht, List.take_of_length_le]
      rw [Array.length_toList]
      omega
    apply Array.ext'
    rw [e]
    simp [u8v]
/-- Bytes stored one behind the other. -/
theorem store_z (g o : Nat) : ∀ (vs : List Nat) (i : Nat) (l : List Nat) (w : World), ZRow w g l → o + i + vs.length ≤ l.length →
    ∃ w', (storeCells ⟨g, o, none⟩ (vs.map fun b : Nat => Value.int .u8 (b : Int)) i).run Try.prog w = .ok () w' ∧ ZRow w' g (l.take (o + i) ++ vs ++ l.drop (o + i + vs.length)) ∧ w.grownBy w' (some g)
  | [], i, l, w, h, _ => ⟨w, rfl, by simpa using h, World.grownBy.refl _ _⟩
  | v :: rest, i, l, w, h, hl => by
    have hi : o + i < l.length := by simp at hl; omega
    have hadd : (⟨g, o, none⟩ : Addr).add i = ⟨g, o + i, none⟩ := by unfold Addr.add; split <;> simp_all
    have hst : (store ((⟨g, o, none⟩ : Addr).add i) (Value.int .u8 (v : Int))).run Try.prog w = .ok () (w.setCell ⟨g, o + i, none⟩ (.int .u8 (v : Int))) := by
      rw [hadd, run_store Try.prog w _ _ _ rfl, h.cell (o + i) hi]
      simp [h.frozen (o + i)]
    obtain ⟨w', e1, e2, e3⟩ := store_z g o rest (i + 1) (l.set (o + i) v) (w.setCell ⟨g, o + i, none⟩ (.int .u8 (v : Int))) (h.set (o + i) v) (by rw [List.length_set]; simp at hl; omega)
    refine ⟨w', ?_, ?_, grown_trans (BRow.grownBy_set g (o + i) _) e3⟩
    · simp only [List.map_cons, storeCells, Sem.run_bind, hst, Result.andThen_ok, e1]
    · have e := seg_step l (o + i) v rest (by simp at hl; omega)
      rw [show o + (i + 1) = o + i + 1 by omega, e] at e2
      simpa using e2
/-- 'copy(dst, t)', t a text that fits, dst in a made row of bytes from place o on. -/
theorem copy_z {w : World} {g o dLen dCap : Nat} {l : List Nat} (t : ByteArray) (h : ZRow w g l) (hle : t.size ≤ dLen) (hf : o + t.size ≤ l.length) :
    ∃ w', (Builtin.copy_ #[22, 9] 3 #[.slice (some ⟨g, o, none⟩) dLen dCap, .string t]).run Try.prog w = .ok (goInt t.size) w' ∧ ZRow w' g (l.take o ++ bs t ++ l.drop (o + t.size)) ∧ w.grownBy w' (some g) := by
  obtain ⟨w', e1, e2, e3⟩ := store_z g o (bs t) 0 l w h (by rw [bs_length]; omega)
  refine ⟨w', ?_, by rw [bs_length] at e2; simpa using e2, e3⟩
  have hmin : Nat.min t.size dLen = t.size := Nat.min_eq_left hle
  have htk : List.take t.size (List.map (fun b : UInt8 => Value.int IntKind.u8 (b.toNat : Int)) t.data.toList) = (bs t).map (fun b : Nat => Value.int .u8 (b : Int)) := by
    rw [List.take_of_length_le (by rw [List.length_map, Array.length_toList]; exact Nat.le_refl _)]
    unfold bs
    rw [List.map_map]
    rfl
  obtain ⟨i0, hi, hz0, hz1, hz2⟩ := info_parts infoByte
  simp [Builtin.copy_, run_underlying (P := Try.prog) Try.underlying22, Builtin.lenOf, Builtin.firstCells, sizeOf, typeInfo, hi, hmin]
  rw [htk, e1]
  simp [Result.andThen]

/-- The first k of a sum's bytes, and noughts. -/
def lowTo (n k : Nat) : List Nat := (low4 n).take k ++ List.replicate (4 - k) 0
theorem lowTo_step (n k : Nat) (h : k < 4) : (lowTo n k).set k (n / 256 ^ k % 256) = lowTo n (k + 1) := by
  have : k = 0 ∨ k = 1 ∨ k = 2 ∨ k = 3 := by omega
  rcases this with rfl | rfl | rfl | rfl <;> simp [lowTo, low4]
theorem lowTo_length (n k : Nat) (h : k ≤ 4) : (lowTo n k).length = 4 := by
  unfold lowTo
  rw [List.length_append, List.length_take, List.length_replicate, low4_length]
  omega

end Go.Proofs.Ythmijjcddjlebaa

namespace Go.Proofs.Ythmijjcddjlebaa
open Go.RowKit

theorem box_cell0 {w w1 : World} {cs : Array Value} {T : TypeId} (h : Below (w.alloc (.cells cs T)).heap.size (w.alloc (.cells cs T)) w1) (i : Nat) : w1.cell? ⟨w.heap.size, i, none⟩ = cs[i]? := by
  rw [h.cell (p := ⟨w.heap.size, i, none⟩) (by simp), cell_of_row _ w.heap.size i cs T (0, 0) (heap_alloc_new w _)]
theorem below_grown {w w' w'' : World} {B g : Nat} (h : Below B w w') (hB : B ≤ w'.heap.size) (k : w'.grownBy w'' (some g)) (hg : B ≤ g) : Below B w w'' :=
  h.grown k hB (fun j hj => by cases hj; exact hg)
theorem row4 (k a e n : Nat) : ((((((List.replicate 28 0).set 0 k).set 1 (a / 256)).set 2 (a % 256)).set 3 (e / 256)).set 4 (e % 256)).set 5 n = [k, a / 256, a % 256, e / 256, e % 256, n] ++ List.replicate 22 0 := rfl
theorem row5 (k a e : Nat) (b : List Nat) (h : b.length ≤ 16) :
    ([k, a / 256, a % 256, e / 256, e % 256, b.length] ++ List.replicate 22 0).take 6 ++ b ++ ([k, a / 256, a % 256, e / 256, e % 256, b.length] ++ List.replicate 22 0).drop (6 + b.length) = headB k a e b ++ List.replicate 4 0 := by
  have e1 : ([k, a / 256, a % 256, e / 256, e % 256, b.length] ++ List.replicate 22 0).take 6 = [k, a / 256, a % 256, e / 256, e % 256, b.length] := rfl
  have e2 : ([k, a / 256, a % 256, e / 256, e % 256, b.length] ++ List.replicate 22 0).drop (6 + b.length) = List.replicate (22 - b.length) 0 := by
    rw [← List.drop_drop]
    show (List.replicate 22 0).drop b.length = _
    rw [List.drop_replicate]
  rw [e1, e2]
  unfold headB
  rw [List.append_assoc, List.append_assoc, List.append_assoc, List.replicate_append_replicate]
  congr 4
  omega
theorem row6 (k a e : Nat) (b : List Nat) (h : b.length ≤ 16) :
    (headB k a e b ++ List.replicate 4 0).take 24 = headB k a e b ∧ (headB k a e b ++ List.replicate 4 0).take 24 ++ low4 (Crc.on 0 (headB k a e b)) ++ (headB k a e b ++ List.replicate 4 0).drop 28 = frB k a e b := by
  have hl := headB_length (K := k) (A := a) (E := e) h
  have e1 : (headB k a e b ++ List.replicate 4 0).take 24 = headB k a e b := by rw [← hl, List.take_left]
  refine ⟨e1, ?_⟩
  have e2 : (headB k a e b ++ List.replicate 4 0).drop 28 = [] := by
    apply List.drop_of_length_le
    rw [List.length_append, hl, List.length_replicate]
    omega
  rw [e1, e2, List.append_nil]
  rfl

end Go.Proofs.Ythmijjcddjlebaa

namespace Go.Proofs.Ythmijjcddjlebaa
open Go.RowKit

/-- So many bytes of a number, the highest first. -/
def hiB (n : Nat) : Nat → List Nat
  | 0 => []
  | m + 1 => hiB (n / 256) m ++ [n % 256]
theorem hiB_small (m : Nat) : ∀ n, ∀ b ∈ hiB n m, b < 256 := by
  induction m with
  | zero => intro n b hb; simp [hiB] at hb
  | succ m ih =>
    intro n b hb
    rw [hiB, List.mem_append] at hb
    rcases hb with hb | hb
    · exact ih _ b hb
    · simp at hb; omega
theorem hiB_length (m : Nat) : ∀ n, (hiB n m).length = m := by
  induction m with
  | zero => intro n; rfl
  | succ m ih => intro n; rw [hiB, List.length_append, ih]; rfl
theorem rep_set (j v : Nat) (T : List Nat) : (List.replicate (j + 1) 0 ++ T).set j v = List.replicate j 0 ++ (v :: T) := by
  induction j with
  | zero => rfl
  | succ j ih => rw [List.replicate_succ, List.cons_append, List.set_cons_succ, ih, List.replicate_succ, List.cons_append]

theorem shr_byte (n k : Nat) : (n : Int) / 2 ^ (8 * k) = ((n / 256 ^ k : Nat) : Int) := by
  rw [Int.natCast_ediv, Int.natCast_pow, show (((256 : Nat) : Int)) = 2 ^ 8 by decide, ← Int.pow_mul]
theorem low4_take (n k : Nat) (h : k < 4) : (low4 n).take (k + 1) = (low4 n).take k ++ [n / 256 ^ k % 256] := by
  have : k = 0 ∨ k = 1 ∨ k = 2 ∨ k = 3 := by omega
  rcases this with rfl | rfl | rfl | rfl <;> simp [low4]
theorem ofN_append (l m : List Nat) : ofN l ++ ofN m = ofN (l ++ m) := by
  unfold ofN
  rw [ByteArray.mk_append_mk, List.map_append]

/-- The number of some bytes, the highest first. -/
def valB (l : List Nat) : Nat := l.foldl (fun n b => n * 256 + b) 0
theorem valB_snoc (l : List Nat) (b : Nat) : valB (l ++ [b]) = valB l * 256 + b := by simp [valB, List.foldl_append]
theorem valB_lt (l : List Nat) (h : ∀ b ∈ l, b < 256) (hl : l.length ≤ 2) : valB l < 65536 := by
  match l, hl with
  | [], _ => decide
  | [x], _ => have := h x (by simp); simp [valB]; omega
  | [x, y], _ => have := h x (by simp); have := h y (by simp); simp [valB]; omega
theorem i64_or (a b : Nat) (ha : a < 16777216) (hb : b < 256) : bits .or .i64 ((a : Int) * 256) (b : Int) = ((a * 256 + b : Nat) : Int) := by
  have e : a * 256 ||| b = a * 256 + b := by
    have := Nat.shiftLeft_add_eq_or_of_lt (i := 8) (b := b) hb a
    rw [Nat.shiftLeft_eq] at this
    exact this.symm
  show IntKind.i64.wrap ((BitVec.ofInt 64 ((a : Int) * 256) ||| BitVec.ofInt 64 (b : Int)).toNat : Int) = _
  rw [show ((a : Int) * 256) = ((a * 256 : Nat) : Int) by omega, BitVec.toNat_or, ofInt_i64, ofInt_i64, Nat.mod_eq_of_lt (by omega), Nat.mod_eq_of_lt (by omega), e]
  simp [IntKind.wrap, IntKind.bits, IntKind.signed]
  omega

end Go.Proofs.Ythmijjcddjlebaa

namespace Go.Proofs.Ythmijjcddjlebaa
open Go.RowKit
set_option linter.unusedVariables false

theorem infoStr : (Try.prog.info? 9).map (fun i => (i.zero, i.size, i.bytes)) = some (some (.string ⟨#[]⟩), 1, 16) := by kernel_rfl
/-- The value v is a slice that reads as these texts, in this world. -/
def RdT (w : World) (v : Value) (xs : List ByteArray) : Prop :=
  ∃ a cap, v = .slice a xs.length cap ∧ xs.length ≤ cap ∧ (cap ≤ maxLen ∧ (a = none → cap = 0)) ∧ (∀ s ∈ xs, s.size ≤ maxLen) ∧ (xs = [] ∨ ∃ b off, a = some ⟨b, off, none⟩ ∧ b < w.heap.size ∧ ∀ i, i < xs.length → w.cell? ⟨b, off + i, none⟩ = some (.string (xs.getD i ⟨#[]⟩)))
/-- The value v is a slice of the call's own (its block is base or later) that reads as these texts. -/
abbrev OwnT (w : World) (base : Nat) (v : Value) (xs : List ByteArray) : Prop := w.ownsRow base 9 1 v xs.length (xs.map Value.string)

theorem RdT.below {w w' : World} {v : Value} {xs : List ByteArray} (h : RdT w v xs) (hb : Below w.heap.size w w') : RdT w' v xs := by
  obtain ⟨a, cap, rfl, h1, h2, h4, h3⟩ := h
  refine ⟨a, cap, rfl, h1, h2, h4, ?_⟩
  rcases h3 with h3 | ⟨b, off, rfl, hlt, hc⟩
  · exact .inl h3
  · exact .inr ⟨b, off, rfl, Nat.lt_of_lt_of_le hlt hb.size, fun i hi => (hb.cell (p := ⟨b, off + i, none⟩) hlt).trans (hc i hi)⟩
theorem OwnT.rd {w : World} {base : Nat} {v : Value} {xs : List ByteArray} (h : OwnT w base v xs) (hsz : ∀ s ∈ xs, s.size ≤ maxLen) : RdT w v xs := by
  rcases h.2 with ⟨rfl, hn⟩ | ⟨g, cap, cur, rfl, hb, hg, hc, hm, hs, ht⟩
  · have : xs = [] := List.eq_nil_of_length_eq_zero hn
    subst this
    exact ⟨none, 0, rfl, Nat.le_refl _, ⟨Nat.zero_le _, fun _ => rfl⟩, hsz, .inl rfl⟩
  · refine ⟨_, cap, rfl, hc, ⟨hm, fun h => by cases h⟩, hsz, .inr ⟨g, 0, rfl, (Array.getElem?_eq_some_iff.1 hg).1, fun i hi => ?_⟩⟩
    have := World.ownsRow.cellAt h i (by omega)
    rw [Nat.zero_add, this]
    simp [hi]
theorem OwnT.below {w w' : World} {base : Nat} {v : Value} {xs : List ByteArray} (h : OwnT w base v xs) (hb : Below w.heap.size w w') : OwnT w' base v xs := by
  refine ⟨h.1, ?_⟩
  rcases h.2 with hn | ⟨g, cap, cur, rfl, hb', hg, rest⟩
  · exact .inl hn
  · exact .inr ⟨g, cap, cur, rfl, hb', by rw [hb.block g (Array.getElem?_eq_some_iff.1 hg).1]; exact hg, rest⟩
theorem OwnT.mono {w : World} {base base' : Nat} {v : Value} {xs : List ByteArray} (h : OwnT w base v xs) (hb : base' ≤ base) : OwnT w base' v xs := by
  refine ⟨h.1, ?_⟩
  rcases h.2 with hn | ⟨g, cap, cur, rfl, hb', rest⟩
  · exact .inl hn
  · exact .inr ⟨g, cap, cur, rfl, Nat.le_trans hb hb', rest⟩
/-- A row of another is as it was behind a call that writes into a row of its own, base or later. -/
theorem RdT.grown {w w' : World} {v : Value} {xs : List ByteArray} {g : Option Nat} (h : RdT w v xs) (hg : w.grownBy w' g) (hne : ∀ a n c b off, v = .slice a n c → a = some ⟨b, off, none⟩ → g ≠ some b) : RdT w' v xs := by
  obtain ⟨a, cap, rfl, h1, h2, h4, h3⟩ := h
  refine ⟨a, cap, rfl, h1, h2, h4, ?_⟩
  rcases h3 with h3 | ⟨b, off, rfl, hlt, hc⟩
  · exact .inl h3
  · refine .inr ⟨b, off, rfl, Nat.lt_of_lt_of_le hlt hg.size, fun i hi => ?_⟩
    have e := hg.block b hlt (fun e => hne _ _ _ b off rfl rfl e.symm)
    rw [← hc i hi]
    unfold World.cell?
    rw [e]
theorem rdT_nil (w : World) : RdT w (.slice none 0 0) [] := ⟨none, 0, rfl, Nat.le_refl _, ⟨Nat.zero_le _, fun _ => rfl⟩, by simp, .inl rfl⟩
theorem rdT_open {w : World} {x : Addr} {len cap : Nat} {ss : List ByteArray} (hl : len ≤ cap) (hm : cap ≤ maxLen) (hz : ss.length = cap)
    (hcell : ∀ i, i < ss.length → w.cell? (x.add i) = some (.string (ss.getD i ByteArray.empty))) (hwz : ∀ s ∈ ss, s.size ≤ maxLen) : RdT w (.slice (some x) len cap) (ss.take len) := by
  obtain ⟨b, off, sp⟩ := x
  have el : (ss.take len).length = len := by rw [List.length_take]; omega
  refine ⟨_, cap, by rw [el], by rw [el]; exact hl, ⟨hm, fun h => by cases h⟩, fun s hs => hwz s (List.mem_of_mem_take hs), ?_⟩
  by_cases h0 : len = 0
  · left
    subst h0
    rfl
  · right
    have h00 := hcell 0 (by omega)
    obtain rfl : sp = none := by simpa [Addr.add] using World.cell?_spot h00
    refine ⟨b, off, rfl, ?_, ?_⟩
    · have : w.cell? ⟨b, off, none⟩ = some (.string (ss.getD 0 ByteArray.empty)) := by simpa [Addr.add] using h00
      unfold World.cell? at this
      cases hh : w.heap[b]? with
      | none => simp [hh] at this
      | some o => exact (Array.getElem?_eq_some_iff.1 hh).1
    · intro i hi
      rw [el] at hi
      have := hcell i (by omega)
      have hadd : (⟨b, off, none⟩ : Addr).add i = ⟨b, off + i, none⟩ := by unfold Addr.add; split <;> simp_all
      rw [hadd] at this
      rw [this]
      have hiz : i < ss.length := by omega
      simp only [List.getD_eq_getElem?_getD, List.getElem?_take, if_pos hi, List.getElem?_eq_getElem hiz, Option.getD_some]
theorem strs_oneCell (zs : List ByteArray) : ∀ u ∈ zs.map Value.string, u.oneCell' = true := by
  intro u hu
  obtain ⟨b, _, rfl⟩ := List.mem_map.1 hu
  rfl

/-- 'append(out, p...)', out the call's own, p a row of the next block but one: one text. -/
theorem wpList_append_text1 {w : World} {ops : Array Oper} {rest : List Oper} {o : Oper} {a : Act} {Q : Exit → Act → World → Prop} (hgd : o.guard = none) (s x : Operand)
    (ho : o.op = .call { callee := .builtin .append, args := #[s, x], argTypes := #[23, 23] })
    (base : Nat) (v : Value) (n : Nat) (xs : List ByteArray) (z : ByteArray) (hs : a.eval s = v) (hown : w.ownsRow base 9 1 v n (xs.map Value.string)) (g : Nat) (hx : a.eval x = .slice (some ⟨g, 0, none⟩) 1 1) (hr : w.cell? ⟨g, 0, none⟩ = some (.string z))
    (hm : n + 1 ≤ 1073741824) (hbase : base ≤ w.heap.size)
    (h : ∀ v' w', OwnT w' base v' (xs ++ [z]) → w.grownBy w' v.ownBlock → wpList Try.prog ops Q rest (a.put o.dst v') w') : wpList Try.prog ops Q (o :: rest) a w := by
  obtain ⟨i0, hi, hz0, hz1, hz2⟩ := info_parts infoStr
  have hxn : xs.length = n := by have := hown.1; simpa using this
  refine wpList_append_own (w := w) hgd s x _ ho base _ i0 (.string ⟨#[]⟩) 1 16 Try.underlying23 hi hz0 hz1 hz2 rfl (by decide) v n _ hs hown ⟨g, 0, none⟩ 1 1 ([z].map Value.string) hx (by simp) ?_ (strs_oneCell _) (by unfold maxLen; omega) (by omega) hbase ?_
  · intro j y hj
    have hjl : j = 0 := by have := (List.getElem?_eq_some_iff.1 hj).1; simp at this; exact this
    subst hjl
    have hadd : (⟨g, 0, none⟩ : Addr).add 0 = ⟨g, 0, none⟩ := by unfold Addr.add; split <;> simp_all
    rw [hadd, hr]
    simpa using hj
  · intro v' w' ho' hg' _
    refine h v' w' ?_ hg'
    show World.ownsRow _ _ _ _ _ (xs ++ [z]).length _
    rw [List.map_append, List.length_append, hxn]
    exact ho'
/-- 'make([]string, n)': n empty texts of the call's own, in the next block. -/
theorem wpList_make_texts {w : World} {ops : Array Oper} {rest : List Oper} {o : Oper} {a : Act} {Q : Exit → Act → World → Prop} (hg : o.guard = none) (l c : Operand) (hop : o.op = Op.makeSlice 23 l c)
    (base : Nat) (L C : Int) (n : Nat) (hl : a.eval l = .int .i64 L) (hc : a.eval c = .int .i64 C) (hL : L = (n : Int)) (hC : C = (n : Int)) (hn : n ≤ 1073741824) (hb : base ≤ w.heap.size)
    (h : ∀ w', OwnT w' base (.slice (some ⟨w.heap.size, 0, none⟩) n n) (List.replicate n ⟨#[]⟩) → w.grownBy w' none → wpList Try.prog ops Q rest (a.put o.dst (.slice (some ⟨w.heap.size, 0, none⟩) n n)) w') : wpList Try.prog ops Q (o :: rest) a w := by
  obtain ⟨i0, hi, hz0, hz1, hz2⟩ := info_parts infoStr
  refine wpList_make_full w hg l c _ hop base 9 i0 (.string ⟨#[]⟩) 1 Try.underlying23 hi hz0 hz1 _ _ L C n hl hc hL hC (by rw [hz2]; omega) (by unfold maxLen; omega) hb ?_
  intro w' ho hg'
  refine h w' ?_ hg'
  show World.ownsRow _ _ _ _ _ (List.replicate n (⟨#[]⟩ : ByteArray)).length _
  rw [List.length_replicate, List.map_replicate]
  have e : (madeCells (Value.string ⟨#[]⟩).cells (n * 1)).toList = List.replicate n (Value.string ⟨#[]⟩) := by
    rw [Nat.mul_one]; exact toList_madeCells_one _ n
  rw [e] at ho
  exact ho

/-- What is copied so far. -/
def cpT (xs : List ByteArray) (k : Nat) : List ByteArray := xs.take k ++ List.replicate (xs.length - k) ⟨#[]⟩
theorem cpT_length (xs : List ByteArray) (k : Nat) (h : k ≤ xs.length) : (cpT xs k).length = xs.length := by simp [cpT]; omega
theorem cpT_step (xs : List ByteArray) (k : Nat) (h : k < xs.length) : (cpT xs k).set k (xs.getD k ⟨#[]⟩) = cpT xs (k + 1) := by
  have e1 : (xs.take k).length = k := by simp; omega
  unfold cpT
  rw [List.set_append_right _ _ (by omega), e1, Nat.sub_self]
  obtain ⟨m, hm⟩ : ∃ m, xs.length - k = m + 1 := ⟨xs.length - k - 1, by omega⟩
  have hm2 : xs.length - (k + 1) = m := by omega
  rw [hm, hm2, List.replicate_succ, List.set_cons_zero, List.take_succ_eq_append_getElem h, List.append_assoc]
  simp only [List.getD_eq_getElem?_getD, List.getElem?_eq_getElem h, Option.getD_some, List.singleton_append]
theorem cpT_end (xs : List ByteArray) : cpT xs xs.length = xs := by simp [cpT]
theorem cpT_zero (xs : List ByteArray) : cpT xs 0 = List.replicate xs.length ⟨#[]⟩ := by simp [cpT]

set_option maxRecDepth 100000 in
set_option maxHeartbeats 400000 in
theorem toStringS_calls (v : Value) (xs : List ByteArray) (w : World) (h : RdT w v xs) (hn : xs.length ≤ 1048576) :
    Calls Try.prog 51 #[v] w fun e w' => ∃ v', e = .returned v' ∧ OwnT w' w.heap.size v' xs ∧ Below w.heap.size w w' := by
  obtain ⟨a, cap, rfl, h1, h2, h4, h3⟩ := h
  have H3 := hide h3
  clear h3 h4
  go_enter Try.func51, Try.ntmps51
  go_wp2_with (at_make; refine wpList_make_texts rfl _ _ rfl w.heap.size _ _ xs.length rfl rfl (by omega) (by omega) (by omega) (Nat.le_refl _) ?_)
  intro w0 hown0 hgrow0
  have E0 := hide hown0
  have G0 := hide hgrow0
  clear hown0 hgrow0
  go_wp2
  go_loopw [4] (fun vi wr => ∃ k : Nat, k ≤ xs.length ∧ vi = .int .i64 k ∧ wr.ownsRow w.heap.size 9 1 (.slice (some ⟨w.heap.size, 0, none⟩) xs.length xs.length) xs.length ((cpT xs k).map Value.string) ∧ Below w.heap.size w wr) (fun vi _ => xs.length - (intOf vi).toNat)
  case atStart =>
    refine ⟨0, Nat.zero_le _, rfl, ?_, (Below.refl _ _).grown G0.out (Nat.le_refl _) (fun k h => by cases h)⟩
    rw [cpT_zero]
    have := E0.out
    unfold OwnT at this
    rwa [List.length_replicate] at this
  case round =>
    obtain ⟨k, hk, rfl, hown, hb⟩ := hrel
    by_cases hlt : k < xs.length
    · rcases H3.out with h3 | ⟨b, off, rfl, hbs, hc⟩
      · subst h3; simp at hlt
      · have hc1 : wr.cell? ⟨b, off + k, none⟩ = some (.string (xs.getD k ⟨#[]⟩)) := (hb.cell (by exact hbs)).trans (hc k hlt)
        have hc2 : wr.frozen? ⟨w.heap.size, k, none⟩ = false := hown.frozenAt k
        obtain ⟨old, hc3⟩ : ∃ old, wr.cell? ⟨w.heap.size, k, none⟩ = some old := by
          rw [hown.cellAt k (by omega)]
          have := cpT_length xs k hk
          exact ⟨_, List.getElem?_eq_getElem (by simp; omega)⟩
        have hst := hown.stored k (.string (xs.getD k ⟨#[]⟩))
        have K := hide hst
        clear hst hc
        go_wp2
        go_roundw
        case rel =>
          refine ⟨k + 1, by omega, by go_num, ?_, ?_⟩
          · have := K.out.1
            rw [← List.map_set, cpT_step xs k hlt] at this
            simpa [hlt] using this
          · exact hb.setCell (Nat.le_refl _) _
        case measure => simp [intOf]; omega
    · obtain rfl : k = xs.length := by omega
      go_wp2
      go_ret
      rw [cpT_end] at hown
      exact ⟨_, rfl, hown, hb⟩

set_option maxRecDepth 100000 in
set_option maxHeartbeats 400000 in
theorem eqStringS_same (v1 v2 : Value) (xs : List ByteArray) (w : World) (h1 : RdT w v1 xs) (h2 : RdT w v2 xs) :
    Calls Try.prog 53 #[v1, v2] w fun e w' => e = .returned (.bool true) ∧ Below w.heap.size w w' := by
  obtain ⟨a1, c1, rfl, _, m1, _, k1⟩ := h1
  obtain ⟨a2, c2, rfl, _, _, _, k2⟩ := h2
  have hm : xs.length ≤ maxLen := by omega
  unfold maxLen at hm
  have K := hide k1
  have L := hide k2
  clear k1 k2 m1
  go_enter Try.func53, Try.ntmps53
  go_wp2
  go_loopw [5] (fun vi wr => ∃ k : Nat, k ≤ xs.length ∧ vi = .int .i64 k ∧ Below w.heap.size w wr) (fun vi _ => xs.length - (intOf vi).toNat)
  case atStart => exact ⟨0, Nat.zero_le _, rfl, Below.refl _ _⟩
  case round =>
    obtain ⟨k, hk, rfl, hb⟩ := hrel
    by_cases hlt : k < xs.length
    · rcases K.out with h3 | ⟨b, off, rfl, hbs, hc⟩
      · subst h3; simp at hlt
      rcases L.out with h3 | ⟨b', off', rfl, hbs', hc'⟩
      · subst h3; simp at hlt
      have e1 : wr.cell? ⟨b, off + k, none⟩ = some (.string (xs.getD k ⟨#[]⟩)) := (hb.cell (by exact hbs)).trans (hc k hlt)
      have e2 : wr.cell? ⟨b', off' + k, none⟩ = some (.string (xs.getD k ⟨#[]⟩)) := (hb.cell (by exact hbs')).trans (hc' k hlt)
      have hlt' : (k : Int) < (xs.length : Int) := by omega
      clear hc hc'
      generalize xs.getD k ⟨#[]⟩ = z at e1 e2
      go_wp2
      go_quiet (fail)
      go_wp2
      go_roundw
      case rel => exact ⟨k + 1, by omega, by go_num, below_drewN hb _⟩
      case measure => simp [intOf]; omega
    · obtain rfl : k = xs.length := by omega
      go_wp2
      go_ret
      exact ⟨rfl, hb⟩

/-- What the measure of some texts tells. -/
def SzOk (xs : List ByteArray) (r : Int) : Prop := r < 0 ∨ (0 ≤ r ∧ xs.length ≤ 1048576 ∧ ∀ i, i < xs.length → (xs.getD i ⟨#[]⟩).size ≤ 1048576)

set_option maxRecDepth 100000 in
set_option maxHeartbeats 400000 in
theorem szStringS_calls (v : Value) (xs : List ByteArray) (w : World) (h : RdT w v xs) :
    Calls Try.prog 50 #[v, .int .i64 1048576] w fun e w' => (∃ r : Int, e = .returned (.int .i64 r) ∧ SzOk xs r) ∧ w = w' := by
  obtain ⟨a, cap, rfl, h1, h2, h4, h3⟩ := h
  have hm : xs.length ≤ maxLen := by omega
  unfold maxLen at hm
  have H3 := hide h3
  have H4 := hide h4
  clear h3 h4 h2 h1
  by_cases hn : xs.length ≤ 1048576
  case neg =>
    have hn' : 1048576 - (xs.length : Int) < 0 := by omega
    go_enter Try.func50, Try.ntmps50
    go_wp2
    go_ret
    exact ⟨⟨-1, rfl, .inl (by decide)⟩, rfl⟩
  have hn' : ¬ 1048576 - (xs.length : Int) < 0 := by omega
  go_enter Try.func50, Try.ntmps50
  go_wp2
  go_loop [1, 5] (fun vl vi => ∃ (k : Nat) (l : Int), k ≤ xs.length ∧ vi = .int .i64 k ∧ vl = .int .i64 l ∧ 0 ≤ l ∧ l ≤ 1048576 ∧ ∀ i, i < k → (xs.getD i ⟨#[]⟩).size ≤ 1048576) (fun _ vi => xs.length - (intOf vi).toNat)
  case atStart => exact ⟨0, _, Nat.zero_le _, rfl, rfl, by omega, by omega, fun i hi => by omega⟩
  case round =>
    obtain ⟨k, l, hk, rfl, rfl, hl0, hl1, hall⟩ := hrel
    have HA := hide hall
    clear hall
    by_cases hlt : k < xs.length
    · rcases H3.out with h3 | ⟨b, off, rfl, hbs, hc⟩
      · subst h3; simp at hlt
      have hc1 := hc k hlt
      have hz : (xs.getD k ⟨#[]⟩).size ≤ maxLen := by
        apply H4.out
        rw [List.getD_eq_getElem?_getD, List.getElem?_eq_getElem hlt]
        exact List.getElem_mem hlt
      unfold maxLen at hz
      clear hc
      obtain ⟨z, hzz⟩ : ∃ z, z = xs.getD k ⟨#[]⟩ := ⟨_, rfl⟩
      rw [← hzz] at hc1 hz
      have HZ := hide hzz
      clear hzz
      by_cases hle : (z.size : Int) ≤ l
      · have t1 : ¬ l - (z.size : Int) < 0 := by omega
        go_wp2
        go_round
        case rel =>
          refine ⟨k + 1, _, by omega, by go_num, rfl, by omega, by omega, fun i hi => ?_⟩
          by_cases e : i = k
          · subst e
            rw [← HZ.out]
            omega
          · exact HA.out i (by omega)
        case measure => simp [intOf]; omega
      · have t1 : l - (z.size : Int) < 0 := by omega
        go_wp2
        go_ret
        exact ⟨⟨-1, rfl, .inl (by decide)⟩, rfl⟩
    · obtain rfl : k = xs.length := by omega
      go_wp2
      go_ret
      exact ⟨⟨l, rfl, Or.inr ⟨hl0, hn, HA.out⟩⟩, rfl⟩

/-- A number's digits, as bytes, so many of them at most. -/
def decF : Nat → Nat → List Nat
  | 0, _ => []
  | f + 1, k => if k = 0 then [] else decF f (k / 10) ++ [48 + k % 10]
theorem decF_same : ∀ (f g k : Nat), k < f → k < g → decF f k = decF g k
  | 0, _, _, h, _ => by omega
  | _, 0, _, _, h => by omega
  | f + 1, g + 1, k, h1, h2 => by
    unfold decF
    by_cases h : k = 0
    · rw [if_pos h, if_pos h]
    · rw [if_neg h, if_neg h, decF_same f g (k / 10) (by omega) (by omega)]
/-- A number's digits, as bytes. -/
def decL (k : Nat) : List Nat := decF (k + 1) k
theorem decL_zero : decL 0 = [] := rfl
theorem decL_pos (k : Nat) (h : 0 < k) : decL k = decL (k / 10) ++ [48 + k % 10] := by
  unfold decL
  rw [decF_same (k / 10 + 1) k (k / 10) (by omega) (by omega)]
  show (if k = 0 then [] else decF k (k / 10) ++ [48 + k % 10]) = _
  rw [if_neg (by omega)]
theorem decL_length (k : Nat) : (decL k).length ≤ k := by
  induction k using Nat.strongRecOn with
  | ind k ih =>
    by_cases h : k = 0
    · subst h; rw [decL_zero]; exact Nat.le_refl _
    · rw [decL_pos k (by omega), List.length_append]
      have := ih (k / 10) (by omega)
      simp
      omega
/-- The mark of a number. -/
def mt (k : Nat) : ByteArray := ofN (109 :: decL k)
theorem mt_size (k : Nat) : (mt k).size ≤ k + 1 := by
  unfold mt
  rw [ofN_size, List.length_cons]
  have := decL_length k
  omega
theorem byte_text (d : Nat) (hd : d < 256) (W : World) : (convert 22 9 (.slice (some ⟨W.heap.size, 0, none⟩) 1 1)).run Try.prog (W.alloc (.cells #[.int .u8 (d : Int)] 5)) = .ok (.string (ofN [d])) (W.alloc (.cells #[.int .u8 (d : Int)] 5)) := by
  have hz : ZRow (W.alloc (.cells #[.int .u8 (d : Int)] 5)) W.heap.size [d] := heap_alloc_new W _
  have := hz.conv (n := 1) (cap := 1) (by simpa using hd) (Nat.le_refl _)
  exact this

set_option maxRecDepth 100000 in
set_option maxHeartbeats 400000 in
theorem markText_calls (K : Nat) (w : World) (h0 : 0 < K) (hK : K ≤ 1099511627776) :
    Calls Try.prog 112 #[.int .i64 K] w fun e w' => e = .returned (.string (mt K)) ∧ Below w.heap.size w w' := by
  have hlen := decL_length K
  obtain ⟨T, hT⟩ : ∃ T, T = decL K := ⟨_, rfl⟩
  rw [← hT] at hlen
  have HT := hide hT
  unfold mt
  rw [← hT]
  clear hT
  have h0' : ¬ (K : Int) ≤ 0 := by omega
  go_enter Try.func112, Try.ntmps112
  go_wp2
  go_loopw [0, 3] (fun vk vo wr => ∃ (k : Nat) (l : List Nat), vk = .int .i64 k ∧ vo = .string (ofN l) ∧ k ≤ K ∧ T = decL k ++ l ∧ Below w.heap.size w wr) (fun vk _ _ => (intOf vk).toNat)
  case atStart => exact ⟨K, [], rfl, rfl, Nat.le_refl _, by rw [List.append_nil]; exact HT.out, Below.refl _ _⟩
  case round =>
    obtain ⟨k, l, rfl, rfl, hk, hl, hb⟩ := hrel
    have hll : l.length ≤ K := by
      have := congrArg List.length hl
      rw [List.length_append] at this
      omega
    have HLL := hide hl
    have HB := hide hb
    clear hl hb
    by_cases hk0 : 0 < k
    · have hk0' : (0 : Int) < (k : Int) := by omega
      have hcv := byte_text (48 + k % 10) (by omega) wr
      have ecast : (((48 + k % 10 : Nat) : Int)) = 48 + (k : Int) % 10 := by omega
      rw [ecast] at hcv
      have hadd := fun W : World => run_string_add_sum (P := Try.prog) (w := W) (ofN [48 + k % 10]) (ofN l) (by rw [ofN_size, ofN_size]; simp; omega)
      clear ecast
      go_wp2
      refine ⟨⟨k / 10, (48 + k % 10) :: l, int_eq (by omega), ?_, by omega, ?_, HB.out.alloc HB.out.size _⟩, by simp [intOf]; omega⟩
      · rw [ofN_append]
        rfl
      · rw [HLL.out, decL_pos k hk0, List.append_assoc]
        rfl
    · obtain rfl : k = 0 := by omega
      have e0 : T = l := by have := HLL.out; rw [decL_zero] at this; exact this
      have hadd := fun W : World => run_string_add_sum (P := Try.prog) (w := W) (⟨#[109]⟩ : ByteArray) (ofN l) (by rw [ofN_size]; show 1 + l.length ≤ _; omega)
      have E0 := hide e0
      clear e0
      go_wp2
      go_ret
      refine ⟨?_, HB.out⟩
      have e1 : (⟨#[109]⟩ : ByteArray) = ofN [109] := rfl
      rw [e1, ofN_append, E0.out]
      rfl
end Go.Proofs.Ythmijjcddjlebaa
