/-
  A frame's bytes, and what is read from them: mathematics over lists of bytes, no program. No condition but those that each fact names.
-/
import Derived.Test.YtpgmocogffolaaaPtch
namespace Go.Proofs.Ytpgmocogffolaaa
open Go.RowKit

/-- Four bytes of a sum, the lowest first. -/
def low4 (n : Nat) : List Nat := [n % 256, n / 256 % 256, n / 65536 % 256, n / 16777216 % 256]
/-- All of a frame ahead of its sum. -/
def headB (K A E : Nat) (b : List Nat) : List Nat := [K, A / 256, A % 256, E / 256, E % 256, b.length] ++ (b ++ List.replicate (18 - b.length) 0)
def frB (K A E : Nat) (b : List Nat) : List Nat := headB K A E b ++ low4 (Crc.on 0 (headB K A E b))
theorem low4_length (n : Nat) : (low4 n).length = 4 := rfl
theorem low4_small (n : Nat) : ∀ b ∈ low4 n, b < 256 := by
  intro b hb
  simp only [low4, List.mem_cons, List.not_mem_nil, or_false] at hb
  omega
theorem headB_length {K A E : Nat} {b : List Nat} (h : b.length ≤ 16) : (headB K A E b).length = 24 := by
  unfold headB
  rw [List.length_append, List.length_append, List.length_replicate]
  simp
  omega
theorem headB_small {K A E : Nat} {b : List Nat} (hK : K < 256) (hA : A < 65536) (hE : E < 65536) (h : b.length ≤ 16) (hb : ∀ x ∈ b, x < 256) : ∀ x ∈ headB K A E b, x < 256 := by
  intro x hx
  unfold headB at hx
  rw [List.mem_append, List.mem_append] at hx
  rcases hx with hx | hx | hx
  · simp only [List.mem_cons, List.not_mem_nil, or_false] at hx
    omega
  · exact hb x hx
  · have := (List.mem_replicate.1 hx).2
    omega
theorem frB_length {K A E : Nat} {b : List Nat} (h : b.length ≤ 16) : (frB K A E b).length = 28 := by
  unfold frB
  rw [List.length_append, headB_length h, low4_length]
theorem frB_small {K A E : Nat} {b : List Nat} (hK : K < 256) (hA : A < 65536) (hE : E < 65536) (h : b.length ≤ 16) (hb : ∀ x ∈ b, x < 256) : ∀ x ∈ frB K A E b, x < 256 := by
  intro x hx
  unfold frB at hx
  rw [List.mem_append] at hx
  rcases hx with hx | hx
  · exact headB_small hK hA hE h hb x hx
  · exact low4_small _ x hx
theorem frB_take {K A E : Nat} {b : List Nat} (h : b.length ≤ 16) : (frB K A E b).take 24 = headB K A E b := by
  unfold frB
  rw [← headB_length (K := K) (A := A) (E := E) h, List.take_left]
theorem frB_drop {K A E : Nat} {b : List Nat} (h : b.length ≤ 16) : (frB K A E b).drop 24 = low4 (Crc.on 0 (headB K A E b)) := by
  unfold frB
  rw [← headB_length (K := K) (A := A) (E := E) h, List.drop_left]
theorem frB_body {K A E : Nat} {b : List Nat} : ((frB K A E b).drop 6).take b.length = b := by
  show ((b ++ List.replicate (18 - b.length) 0) ++ low4 (Crc.on 0 (headB K A E b))).take b.length = b
  rw [List.append_assoc, List.take_left]
/-- A good frame. -/
abbrev goodF (K A E : Int) (n : Nat) : Prop := ((1 ≤ K ∧ K ≤ 255) ∧ (0 ≤ A ∧ A ≤ 60000)) ∧ (0 ≤ E ∧ E ≤ 60000) ∧ n ≤ 16
def goodD (K A E : Int) (n : Nat) : Bool := decide (goodF K A E n)
theorem goodD_yes {K A E : Int} {n : Nat} (h : goodF K A E n) : goodD K A E n = true := decide_eq_true h
theorem goodD_no {K A E : Int} {n : Nat} (h : ¬ goodF K A E n) : goodD K A E n = false := decide_eq_false h
/-- What FrameBytes answers. -/
def frR (K A E : Int) (b : ByteArray) : ByteArray × Bool :=
  if goodF K A E b.size then (ofN (frB K.toNat A.toNat E.toNat (bs b)), true) else (⟨#[]⟩, false)
/-- What is in a frame that is read. -/
structure Fr where
  K : Int
  A : Int
  E : Int
  B : ByteArray
  code : Int
  ok : Bool
def frNo (c : Int) : Fr := ⟨0, 0, 0, ⟨#[]⟩, c, false⟩
def kindOf (l : List Nat) : Nat := l.getD 0 0
def atOf (l : List Nat) : Nat := l.getD 1 0 * 256 + l.getD 2 0
def epochOf (l : List Nat) : Nat := l.getD 3 0 * 256 + l.getD 4 0
def longOf (l : List Nat) : Nat := l.getD 5 0
def bodyOf (l : List Nat) : List Nat := (l.drop 6).take (longOf l)
/-- What ReadFrame answers. -/
def rdR (s : ByteArray) : Fr :=
  if s.size = 28 then
    if (bs s).drop 24 = low4 (Crc.on 0 ((bs s).take 24)) then
      if longOf (bs s) ≤ 16 ∧ goodF (kindOf (bs s)) (atOf (bs s)) (epochOf (bs s)) (longOf (bs s)) ∧ frB (kindOf (bs s)) (atOf (bs s)) (epochOf (bs s)) (bodyOf (bs s)) = bs s then
        ⟨kindOf (bs s), atOf (bs s), epochOf (bs s), ofN (bodyOf (bs s)), 0, true⟩
      else frNo 3
    else frNo 2
  else frNo 1
/-- What CheckFrame answers. -/
def ckR (s : ByteArray) (kind at_ least : Int) : Fr :=
  if (rdR s).ok = true then
    if (rdR s).K = kind then if (rdR s).A = at_ then if least ≤ (rdR s).E then rdR s else frNo 5 else frNo 4 else frNo 3
  else frNo (rdR s).code
theorem bs_inj {s t : ByteArray} (h : bs s = bs t) : s = t := by rw [← ofN_bs s, ← ofN_bs t, h]
theorem fr_eq {a b : Fr} (h1 : a.K = b.K) (h2 : a.A = b.A) (h3 : a.E = b.E) (h4 : a.B = b.B) (h5 : a.code = b.code) (h6 : a.ok = b.ok) : a = b := by
  cases a; cases b; simp_all
/-- What was put into a frame's bytes is read. -/
theorem rd_fr {K A E : Int} {b : ByteArray} (hg : goodF K A E b.size) : rdR (frR K A E b).1 = ⟨K, A, E, b, 0, true⟩ := by
  have hg' := hg
  obtain ⟨⟨⟨k0, k1⟩, a0, a1⟩, ⟨e0, e1⟩, hn⟩ := hg
  obtain ⟨k, rfl⟩ := Int.eq_ofNat_of_zero_le (show 0 ≤ K by omega)
  obtain ⟨a, rfl⟩ := Int.eq_ofNat_of_zero_le a0
  obtain ⟨e, rfl⟩ := Int.eq_ofNat_of_zero_le e0
  have hl : (bs b).length ≤ 16 := by rw [bs_length]; exact hn
  have e1' : (frR k a e b).1 = ofN (frB k a e (bs b)) := by unfold frR; rw [if_pos hg']; rfl
  have eb : bs (ofN (frB k a e (bs b))) = frB k a e (bs b) := bs_ofN (frB_small (by omega) (by omega) (by omega) hl (bs_lt b))
  have hk : kindOf (frB k a e (bs b)) = k := rfl
  have ha : atOf (frB k a e (bs b)) = a := by
    show a / 256 * 256 + a % 256 = a
    omega
  have he : epochOf (frB k a e (bs b)) = e := by
    show e / 256 * 256 + e % 256 = e
    omega
  have hlo : longOf (frB k a e (bs b)) = b.size := by
    show (bs b).length = b.size
    exact bs_length b
  have hbo : bodyOf (frB k a e (bs b)) = bs b := by
    unfold bodyOf
    rw [hlo, ← bs_length b]
    exact frB_body
  rw [e1']
  unfold rdR
  rw [ofN_size, frB_length hl, if_pos rfl, eb, frB_take hl, frB_drop hl, if_pos rfl, hk, ha, he, hlo, hbo, if_pos ⟨hn, hg', rfl⟩, ofN_bs]
end Go.Proofs.Ytpgmocogffolaaa
