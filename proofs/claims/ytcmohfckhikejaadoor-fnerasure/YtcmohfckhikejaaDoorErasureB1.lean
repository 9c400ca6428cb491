/-
  Multiples of a list added to another place by place: the program's function. The contract says what it asks. Slices of slices of integers: what is read (RdM), what a call owns (Mat: the outer row and every inner one lie in blocks of their own, from lo up to hi), what a change between two numbers leaves alone (Chg), and what a law holds in its hands (Hands). No condition; no call is walked here. The laws' own small functions over rows of integers (how great, copied, compared, marked, looked whether the marks are held), call by call. Each contract says what it asks. Which rows of rows are matrices: the program's function and its model's, call by call: both answer 'goodM'. No condition. Rows made: 'append(out, row)', new rows of noughts, copies of a list, the identity: the program's functions and its model's, call by call. Each contract says what it asks.
-/
import Derived.Test.YtcmohfckhikejaaDoorErasureB0
namespace Go.Proofs.YtcmohfckhikejaaDoor
open Go.RowKit
namespace Gf

/-- A slice's length, for a loop's measure. -/
def lenOf : Value → Nat
  | .slice _ n _ => n
  | _ => 0
def ci (l : List Nat) : List Int := l.map fun n : Nat => (n : Int)
theorem ci_length (l : List Nat) : (ci l).length = l.length := by simp [ci]
theorem ci_getD (l : List Nat) (i : Nat) : (ci l).getD i 0 = ((l.getD i 0 : Nat) : Int) := by
  simp only [ci, List.getD_eq_getElem?_getD, List.getElem?_map]
  cases l[i]? <;> simp
theorem ci_set (l : List Nat) (i n : Nat) : (ci l).set i (n : Int) = ci (l.set i n) := by simp [ci, List.map_set]
def AllLt (l : List Nat) : Prop := ∀ i, l.getD i 0 < 256
theorem AllLt.set {l : List Nat} (h : AllLt l) (i n : Nat) (hn : n < 256) : AllLt (l.set i n) := by
  intro j
  have := h j
  simp only [List.getD_eq_getElem?_getD, List.getElem?_set] at *
  split
  · split <;> simp <;> omega
  · exact this

theorem wrap_i64 (n : Int) : IntKind.i64.wrap n = (n + 9223372036854775808) % 18446744073709551616 - 9223372036854775808 := by
  simp [IntKind.wrap, IntKind.bits, IntKind.signed]
  omega
def xorAt (s : List Nat) (i d : Nat) : List Nat := s.set i (s.getD i 0 ^^^ d)
def amTo (s q : List Nat) (f at_ : Nat) : Nat → List Nat
  | 0 => s
  | k + 1 => xorAt (amTo s q f at_ k) (at_ + k) (mul f (q.getD k 0))
theorem amTo_length (s q : List Nat) (f a k : Nat) : (amTo s q f a k).length = s.length := by
  induction k with
  | zero => rfl
  | succ k ih => simp [amTo, xorAt, ih]
theorem amTo_lt {s q : List Nat} {f a : Nat} (hs : AllLt s) (hf : f < 256) (k : Nat) : AllLt (amTo s q f a k) := by
  induction k with
  | zero => exact hs
  | succ k ih => exact ih.set _ _ (Nat.xor_lt_two_pow (n := 8) (ih _) (mul_lt hf))

theorem grownBy_drew {w w' : World} {row : Option Nat} (h : w.grownBy w' row) : w.grownBy w'.drew row := ⟨h.os, h.tape, h.output, h.size, h.block⟩
theorem grownBy_trans {w w' w'' : World} {row : Option Nat} (h : w.grownBy w' row) (k : w'.grownBy w'' row) : w.grownBy w'' row :=
  ⟨k.os.trans h.os, k.tape.trans h.tape, k.output.trans h.output, Nat.le_trans h.size k.size, fun j hj hne => (k.block j (Nat.lt_of_lt_of_le hj h.size) hne).trans (h.block j hj hne)⟩

set_option maxRecDepth 100000 in
set_option maxHeartbeats 800000 in
theorem addMultiple_calls (sv qv : Value) (s q : List Nat) (f a : Int) (base : Nat) (w : World) (hT : ∀ w', w.grownBy w' sv.ownBlock → Tab w') (hs : Own w base sv (ci s)) (hq : ∀ w', w.grownBy w' sv.ownBlock → Rd w' qv (ci q))
    (hf0 : 0 ≤ f) (hf : f < 256) (ha0 : 0 ≤ a) (hfit : a + q.length ≤ s.length) (hsl : s.length ≤ 1048576) (hsa : AllLt s) (hqa : AllLt q) (h0 : 0 < s.length) :
    Calls Tryd.prog 68 #[sv, qv, .int .i64 f, .int .i64 a] w fun e w' => e = .returned (.tuple #[]) ∧ Own w' base sv (ci (amTo s q f.toNat a.toNat q.length)) ∧ w.grownBy w' sv.ownBlock := by
  obtain ⟨F, rfl⟩ := Int.eq_ofNat_of_zero_le hf0
  obtain ⟨A, rfl⟩ := Int.eq_ofNat_of_zero_le ha0
  simp only [Int.toNat_natCast]
  obtain ⟨g, cap, rfl, hg1, hg2, _⟩ := Own.open hs (by rw [ci_length]; exact h0)
  rw [ci_length] at hs
  have Q := hide hq
  have T := hide hT
  have S : Hid (w.ownsRow base 3 1 (.slice (some ⟨g, 0, none⟩) s.length cap) s.length ((ci s).map (Value.int .i64))) := by
    have := hs
    unfold Own at this
    rwa [ci_length] at this
  have SA := hide hsa
  have QA := hide hqa
  obtain ⟨qa, qcap, rfl, hq1, hq2, _⟩ := hq w (World.grownBy.refl _ _)
  simp only [ci_length]
  rw [ci_length] at hq1
  clear hq hT hs hsa hqa
  go_enter Tryd.func68, Tryd.ntmps68
  go_wp2
  go_loopw [12] (fun vi wr => ∃ k : Nat, k ≤ q.length ∧ vi = .int .i64 k ∧ wr.ownsRow base 3 1 (.slice (some ⟨g, 0, none⟩) s.length cap) s.length ((ci (amTo s q F A k)).map (Value.int .i64)) ∧ w.grownBy wr (some g)) (fun vi _ => q.length - (intOf vi).toNat)
  case atStart => exact ⟨0, Nat.zero_le _, rfl, S.out, World.grownBy.refl _ _⟩
  case round =>
    obtain ⟨k, hk, rfl, hown, hgr⟩ := hrel
    by_cases hlt : k < q.length
    · obtain ⟨qa', qcap', hv, _, _, h3⟩ := Q.out wr hgr
      have hv2 : qa' = qa := by simp at hv; exact hv.1.symm
      subst hv2
      clear hv
      rcases h3 with h3 | ⟨b, off, rfl, hbs, hc⟩
      · have := congrArg List.length h3
        rw [ci_length] at this
        simp only [List.length_nil] at this; omega
      have hc1 := hc k (by rw [ci_length]; exact hlt)
      rw [ci_getD] at hc1
      clear hc
      have hc2 : wr.frozen? ⟨g, A + k, none⟩ = false := hown.frozenAt (A + k)
      have hc3 : wr.cell? ⟨g, A + k, none⟩ = some (.int .i64 ((amTo s q F A k).getD (A + k) 0 : Nat)) := by
        rw [hown.cellAt (A + k) (by omega), List.getElem?_map]
        have hl : A + k < (ci (amTo s q F A k)).length := by rw [ci_length, amTo_length]; omega
        rw [List.getElem?_eq_getElem hl]
        have := ci_getD (amTo s q F A k) (A + k)
        rw [List.getD_eq_getElem?_getD, List.getElem?_eq_getElem hl, Option.getD_some] at this
        rw [this]; rfl
      have e1 : ((A : Int) + (k : Int)).toNat = A + k := by omega
      have i1 : (0 : Int) ≤ (A : Int) + (k : Int) := by omega
      have i2 : (A : Int) + (k : Int) < (s.length : Int) := by omega
      have i3 : (k : Int) < (q.length : Int) := by omega
      have i4 : IntKind.i64.wrap ((A : Int) + (k : Int)) = (A : Int) + (k : Int) := by rw [wrap_i64]; omega
      obtain ⟨z, hz⟩ : ∃ z, z = q.getD k 0 := ⟨_, rfl⟩
      rw [← hz] at hc1
      obtain ⟨y, hy⟩ : ∃ y, y = (amTo s q F A k).getD (A + k) 0 := ⟨_, rfl⟩
      rw [← hy] at hc3
      have hz256 : z < 256 := by rw [hz]; exact QA.out k
      have hy256 : y < 256 := by rw [hy]; exact amTo_lt SA.out (by omega) k _
      have Z := hide hz
      have Y := hide hy
      have Tr := hide (T.out wr hgr)
      have G := hide hgr
      have O := hide hown
      clear hz hy hgr hown
      go_wp2
      go_region_with (go_at_call 84; refine (mulE_calls _ _ _ (by exact Tr.out) (by omega) (by omega) (by omega) (by omega)).mono ?_; rintro e w' ⟨rfl, rfl⟩)
      all_goals
        go_wp2
        go_roundw
        case rel =>
          refine ⟨k + 1, by omega, by go_num, ?_, ?_⟩
          · have := (O.out.stored (A + k) (.int .i64 (y ^^^ mul F z : Nat))).1
            rw [← List.map_set, ci_set, Y.out, Z.out] at this
            rw [i64_xor _ _ (by omega) (by have := mul_lt (a := F) (b := z) (by omega); omega), Y.out, Z.out]
            exact this.drew
          · exact grownBy_drew (grownBy_trans G.out (O.out.stored (A + k) _).2)
        case measure => simp [intOf]; omega
    · obtain rfl : k = q.length := by omega
      go_wp2
      go_end0
      refine ⟨rfl, ?_, hgr⟩
      show World.ownsRow _ _ _ _ _ (ci _).length _
      rw [ci_length, amTo_length]
      exact hown
def nat (xs : List Int) : List Nat := xs.map Int.toNat
theorem nat_length (xs : List Int) : (nat xs).length = xs.length := by simp [nat]
theorem allLt_zeros (n : Nat) : AllLt (List.replicate n 0) := by
  intro i
  rw [List.getD_eq_getElem?_getD, List.getElem?_replicate]
  split <;> simp

end Gf
end Go.Proofs.YtcmohfckhikejaaDoor

namespace Go.Proofs.YtcmohfckhikejaaDoor
open Go.RowKit

theorem infoRow : (Tryd.prog.info? 31).map (fun i => (i.zero, i.size, i.bytes)) = some (some (.slice none 0 0), 1, 24) := by kernel_rfl
theorem infoRowSize : (Tryd.prog.info? 31).map (·.size) = some 1 := by kernel_rfl
abbrev nilRow : Value := .slice none 0 0

/-- The value v is a slice of slices that reads as these rows, in this world. -/
def RdM (w : World) (v : Value) (m : List (List Int)) : Prop :=
  ∃ a cap, v = .slice a m.length cap ∧ m.length ≤ cap ∧ (cap ≤ maxLen ∧ (a = none → cap = 0)) ∧
    (m = [] ∨ ∃ b off, a = some ⟨b, off, none⟩ ∧ b < w.heap.size ∧ ∀ i, i < m.length → ∃ u, w.cell? ⟨b, off + i, none⟩ = some u ∧ Rd w u (m.getD i []))
theorem RdM.below {w w' : World} {v : Value} {m : List (List Int)} (h : RdM w v m) (hb : Below w.heap.size w w') : RdM w' v m := by
  obtain ⟨a, cap, rfl, h1, h2, h3⟩ := h
  refine ⟨a, cap, rfl, h1, h2, ?_⟩
  rcases h3 with h3 | ⟨b, off, rfl, hlt, hc⟩
  · exact .inl h3
  · refine .inr ⟨b, off, rfl, Nat.lt_of_lt_of_le hlt hb.size, fun i hi => ?_⟩
    obtain ⟨u, hu, hr⟩ := hc i hi
    exact ⟨u, (hb.cell (p := ⟨b, off + i, none⟩) hlt).trans hu, hr.below hb⟩
theorem RdM.row {w : World} {a : Option Addr} {n cap : Nat} {m : List (List Int)} (h : RdM w (.slice a n cap) m) (i : Nat) (hi : i < m.length) :
    ∃ b off u, a = some ⟨b, off, none⟩ ∧ w.cell? ⟨b, off + i, none⟩ = some u ∧ Rd w u (m.getD i []) := by
  obtain ⟨a', cap', hv, _, _, h3⟩ := h
  simp only [Value.slice.injEq] at hv
  obtain ⟨rfl, rfl, rfl⟩ := hv
  rcases h3 with h3 | ⟨b, off, rfl, hlt, hc⟩
  · subst h3; simp at hi
  · obtain ⟨u, hu, hr⟩ := hc i hi
    exact ⟨b, off, u, rfl, hu, hr⟩

/-- Nothing but blocks from lo up to hi (and new ones) is changed. -/
structure Chg (lo hi : Nat) (w w' : World) : Prop where
  os : w'.os = w.os
  tape : w'.tape = w.tape
  output : w'.output = w.output
  size : w.heap.size ≤ w'.heap.size
  block : ∀ k, k < w.heap.size → (k < lo ∨ hi ≤ k) → w'.heap[k]? = w.heap[k]?
theorem Chg.refl (lo hi : Nat) (w : World) : Chg lo hi w w := ⟨rfl, rfl, rfl, Nat.le_refl _, fun _ _ _ => rfl⟩
theorem Chg.trans {lo hi : Nat} {a b c : World} (h : Chg lo hi a b) (k : Chg lo hi b c) : Chg lo hi a c :=
  ⟨k.os.trans h.os, k.tape.trans h.tape, k.output.trans h.output, Nat.le_trans h.size k.size, fun i hi' ho => (k.block i (Nat.lt_of_lt_of_le hi' h.size) ho).trans (h.block i hi' ho)⟩
theorem Chg.ofBelow {lo hi : Nat} {w w' : World} (h : Below w.heap.size w w') : Chg lo hi w w' := ⟨h.os, h.tape, h.output, h.size, fun k hk _ => h.block k hk⟩
theorem Chg.ofGrown {lo hi : Nat} {w w' : World} {row : Option Nat} (h : w.grownBy w' row) (hr : ∀ k, row = some k → lo ≤ k ∧ k < hi) : Chg lo hi w w' :=
  ⟨h.os, h.tape, h.output, h.size, fun k hk ho => h.block k hk (fun e => by have := hr k e.symm; omega)⟩
theorem Chg.wider {lo hi lo' hi' : Nat} {w w' : World} (h : Chg lo hi w w') (h1 : lo' ≤ lo) (h2 : hi ≤ hi') : Chg lo' hi' w w' :=
  ⟨h.os, h.tape, h.output, h.size, fun k hk ho => h.block k hk (by omega)⟩
/-- What was new in the first world's eyes may be changed at will. -/
theorem Chg.below {lo hi B : Nat} {w w' : World} (h : Chg lo hi w w') (h1 : B ≤ lo) (h2 : B ≤ w.heap.size) : Below B w w' :=
  ⟨h.os, h.tape, h.output, h.size, fun k hk => h.block k (by omega) (.inl (by omega))⟩
theorem Below.thenChg {lo hi : Nat} {w w1 w2 : World} (h : Below w.heap.size w w1) (k : Chg lo hi w1 w2) (hl : w.heap.size ≤ lo) : Below w.heap.size w w2 := h.trans (k.below hl h.size)

theorem Own.chg {w w' : World} {lo hi a b : Nat} {v : Value} {xs : List Int} (h : Own w lo v xs) (ht : ∀ k, v.ownBlock = some k → k < hi) (hc : Chg a b w w') (hd : hi ≤ a ∨ b ≤ lo) : Own w' lo v xs := by
  refine ⟨h.1, ?_⟩
  rcases h.2 with hn | ⟨g, cap, cur, rfl, hb', hg, rest⟩
  · exact .inl hn
  · have := ht g rfl
    exact .inr ⟨g, cap, cur, rfl, hb', by rw [hc.block g (Array.getElem?_eq_some_iff.1 hg).1 (by omega)]; exact hg, rest⟩
theorem Own.top {w : World} {lo : Nat} {v : Value} {xs : List Int} (h : Own w lo v xs) : ∀ k, v.ownBlock = some k → k < w.heap.size := fun k hk => (World.ownsRow.lt h k hk).2

/-- The value v is a slice of slices of the call's own: its rows' values are vs, they hold m. -/
structure MatV (w : World) (lo hi : Nat) (v : Value) (vs : List Value) (m : List (List Int)) : Prop where
  len : vs.length = m.length
  head : w.ownsRow lo 31 1 v m.length vs
  row : ∀ i, i < m.length → Own w lo (vs.getD i nilRow) (m.getD i [])
  top : ∀ k, v.ownBlock = some k → k < hi
  tops : ∀ i k, i < m.length → (vs.getD i nilRow).ownBlock = some k → k < hi
  apart : ∀ i j, i < m.length → j < m.length → i ≠ j → (vs.getD i nilRow).ownBlock = none ∨ (vs.getD i nilRow).ownBlock ≠ (vs.getD j nilRow).ownBlock
def Mat (w : World) (lo hi : Nat) (v : Value) (m : List (List Int)) : Prop := ∃ vs, MatV w lo hi v vs m

/-- A row of slices and a row of integers lie in unlike blocks. -/
theorem heads_apart {w : World} {lo lo' n k : Nat} {v u : Value} {vs xs : List Value} (h : w.ownsRow lo 31 1 v n vs) (h' : w.ownsRow lo' 3 1 u k xs) : v.ownBlock = none ∨ v.ownBlock ≠ u.ownBlock := by
  rcases h.2 with ⟨rfl, _⟩ | ⟨g, cap, cur, rfl, _, hg, _⟩
  · exact .inl rfl
  rcases h'.2 with ⟨rfl, _⟩ | ⟨g', cap', cur', rfl, _, hg', _⟩
  · right; simp [Value.ownBlock]
  · right
    intro e
    simp only [Value.ownBlock, Option.some.injEq] at e
    subst e
    rw [hg] at hg'
    simp at hg'
theorem heads_apart' {w : World} {lo lo' n k : Nat} {v u : Value} {vs xs : List Value} (h : w.ownsRow lo 31 1 v n vs) (h' : w.ownsRow lo' 3 1 u k xs) : u.ownBlock = none ∨ u.ownBlock ≠ v.ownBlock := by
  cases hu : u.ownBlock with
  | none => exact .inl rfl
  | some b =>
    right
    rcases heads_apart h h' with e | e
    · rw [e]; simp
    · rw [← hu]; exact fun h => e h.symm

theorem MatV.lenEq {w : World} {lo hi n cap : Nat} {g : Addr} {vs : List Value} {m : List (List Int)} (h : MatV w lo hi (.slice (some g) n cap) vs m) : n = m.length := by
  rcases h.head.2 with ⟨h', _⟩ | ⟨g', cap', cur, h', _, _⟩
  · simp at h'
  · simp at h'; exact h'.2.1
theorem MatV.sizeLo {w : World} {lo hi n cap : Nat} {g : Addr} {vs : List Value} {m : List (List Int)} (h : MatV w lo hi (.slice (some g) n cap) vs m) : lo ≤ w.heap.size := by
  have h1 := (World.ownsRow.lt h.head g.block rfl)
  omega
theorem MatV.cell {w : World} {lo hi g n cap : Nat} {vs : List Value} {m : List (List Int)} (h : MatV w lo hi (.slice (some ⟨g, 0, none⟩) n cap) vs m) (i : Nat) (hi' : i < m.length) : w.cell? ⟨g, i, none⟩ = some (vs.getD i nilRow) := by
  obtain rfl := h.lenEq
  have := World.ownsRow.cellAt h.head i (by omega)
  rw [this, List.getD_eq_getElem?_getD, List.getElem?_eq_getElem (by rw [h.len]; exact hi'), Option.getD_some]
theorem MatV.open {w : World} {lo hi : Nat} {v : Value} {vs : List Value} {m : List (List Int)} (h : MatV w lo hi v vs m) (h0 : 0 < m.length) :
    ∃ g cap, v = .slice (some ⟨g, 0, none⟩) m.length cap ∧ lo ≤ g ∧ g < w.heap.size ∧ m.length ≤ cap ∧ cap ≤ maxLen := by
  rcases h.head.2 with ⟨_, h'⟩ | ⟨g, cap, cur, rfl, hb, hg, hc, hm, _⟩
  · omega
  · exact ⟨g, cap, rfl, hb, (Array.getElem?_eq_some_iff.1 hg).1, hc, hm⟩
theorem MatV.rd {w : World} {lo hi : Nat} {v : Value} {vs : List Value} {m : List (List Int)} (h : MatV w lo hi v vs m) : RdM w v m := by
  rcases h.head.2 with ⟨rfl, hn⟩ | ⟨g, cap, cur, rfl, hb, hg, hc, hm, hs, ht⟩
  · have : m = [] := List.eq_nil_of_length_eq_zero hn
    subst this
    exact ⟨none, 0, rfl, Nat.le_refl _, ⟨Nat.zero_le _, fun _ => rfl⟩, .inl rfl⟩
  · refine ⟨_, cap, rfl, hc, ⟨hm, fun h => by cases h⟩, .inr ⟨g, 0, rfl, (Array.getElem?_eq_some_iff.1 hg).1, fun i hi => ⟨_, ?_, (h.row i hi).rd⟩⟩⟩
    rw [Nat.zero_add]
    exact h.cell i hi
theorem Mat.rd {w : World} {lo hi : Nat} {v : Value} {m : List (List Int)} (h : Mat w lo hi v m) : RdM w v m := by
  obtain ⟨vs, h⟩ := h
  exact h.rd
theorem ownsRow_below {w w' : World} {base n : Nat} {e : TypeId} {v : Value} {xs : List Value} (h : w.ownsRow base e 1 v n xs) (hb : Below w.heap.size w w') : w'.ownsRow base e 1 v n xs := by
  refine ⟨h.1, ?_⟩
  rcases h.2 with hn | ⟨g, cap, cur, rfl, hb', hg, rest⟩
  · exact .inl hn
  · exact .inr ⟨g, cap, cur, rfl, hb', by rw [hb.block g (Array.getElem?_eq_some_iff.1 hg).1]; exact hg, rest⟩
theorem MatV.below {w w' : World} {lo hi : Nat} {v : Value} {vs : List Value} {m : List (List Int)} (h : MatV w lo hi v vs m) (hb : Below w.heap.size w w') : MatV w' lo hi v vs m :=
  ⟨h.len, ownsRow_below h.head hb, fun i hi => (h.row i hi).below hb, h.top, h.tops, h.apart⟩
theorem Mat.below {w w' : World} {lo hi : Nat} {v : Value} {m : List (List Int)} (h : Mat w lo hi v m) (hb : Below w.heap.size w w') : Mat w' lo hi v m := by
  obtain ⟨vs, h⟩ := h
  exact ⟨vs, h.below hb⟩
theorem MatV.wider {w : World} {lo hi lo' hi' : Nat} {v : Value} {vs : List Value} {m : List (List Int)} (h : MatV w lo hi v vs m) (h1 : lo' ≤ lo) (h2 : hi ≤ hi') : MatV w lo' hi' v vs m := by
  refine ⟨h.len, ⟨h.head.1, ?_⟩, fun i hi => Own.mono (h.row i hi) h1, fun k hk => Nat.lt_of_lt_of_le (h.top k hk) h2, fun i k hi hk => Nat.lt_of_lt_of_le (h.tops i k hi hk) h2, h.apart⟩
  rcases h.head.2 with hn | ⟨g, cap, cur, rfl, hb', rest⟩
  · exact .inl hn
  · exact .inr ⟨g, cap, cur, rfl, Nat.le_trans h1 hb', rest⟩
theorem Mat.wider {w : World} {lo hi lo' hi' : Nat} {v : Value} {m : List (List Int)} (h : Mat w lo hi v m) (h1 : lo' ≤ lo) (h2 : hi ≤ hi') : Mat w lo' hi' v m := by
  obtain ⟨vs, h⟩ := h
  exact ⟨vs, h.wider h1 h2⟩
theorem MatV.chg {w w' : World} {lo hi a b : Nat} {v : Value} {vs : List Value} {m : List (List Int)} (h : MatV w lo hi v vs m) (hc : Chg a b w w') (hd : hi ≤ a ∨ b ≤ lo) : MatV w' lo hi v vs m := by
  refine ⟨h.len, ⟨h.head.1, ?_⟩, fun i hi => Own.chg (h.row i hi) (fun k hk => h.tops i k hi hk) hc hd, h.top, h.tops, h.apart⟩
  rcases h.head.2 with hn | ⟨g, cap, cur, rfl, hb', hg, rest⟩
  · exact .inl hn
  · have := h.top g rfl
    exact .inr ⟨g, cap, cur, rfl, hb', by rw [hc.block g (Array.getElem?_eq_some_iff.1 hg).1 (by omega)]; exact hg, rest⟩
theorem Mat.nil (w : World) (lo hi : Nat) : Mat w lo hi nilRow [] :=
  ⟨[], rfl, World.ownsRow_nil _ _ _ _, fun i hi => by simp at hi, fun k hk => by simp [Value.ownBlock] at hk, fun i k hi => by simp at hi, fun i j hi => by simp at hi⟩

theorem getD_set {α : Type} (l : List α) (i j : Nat) (x d : α) (h : i < l.length) : (l.set i x).getD j d = if j = i then x else l.getD j d := by
  simp only [List.getD_eq_getElem?_getD, List.getElem?_set]
  by_cases e : i = j
  · subst e; simp [h]
  · rw [if_neg e, if_neg (fun h => e h.symm)]

/-- One row is written: the others stay. -/
theorem MatV.write {w w' : World} {lo hi : Nat} {v : Value} {vs : List Value} {m : List (List Int)} (h : MatV w lo hi v vs m) (i : Nat) (hi' : i < m.length) (r : List Int)
    (ho : Own w' lo (vs.getD i nilRow) r) (hg : w.grownBy w' (vs.getD i nilRow).ownBlock) : MatV w' lo hi v vs (m.set i r) := by
  refine ⟨by rw [List.length_set]; exact h.len, ?_, ?_, h.top, ?_, ?_⟩
  · rw [List.length_set]
    exact World.ownsRow.kept h.head hg (heads_apart h.head (h.row i hi'))
  · intro j hj
    rw [List.length_set] at hj
    rw [getD_set _ _ _ _ _ hi']
    by_cases e : j = i
    · subst e; rw [if_pos rfl]; exact ho
    · rw [if_neg e]
      exact World.ownsRow.kept (h.row j hj) hg (h.apart j i hj hi' e)
  · intro j k hj hk
    rw [List.length_set] at hj
    exact h.tops j k hj hk
  · intro j k hj hk
    rw [List.length_set] at hj hk
    exact h.apart j k hj hk
theorem MatV.writeChg {w w' : World} {lo hi : Nat} {v : Value} {vs : List Value} {m : List (List Int)} (h : MatV w lo hi v vs m) (i : Nat) (hi' : i < m.length) (hg : w.grownBy w' (vs.getD i nilRow).ownBlock) : Chg lo hi w w' :=
  Chg.ofGrown hg (fun k hk => ⟨(World.ownsRow.lt (h.row i hi') k hk).1, h.tops i k hi' hk⟩)
/-- Another row reads as it did where one is written. -/
theorem MatV.other {w w' : World} {lo hi : Nat} {v : Value} {vs : List Value} {m : List (List Int)} (h : MatV w lo hi v vs m) (i j : Nat) (hi' : i < m.length) (hj : j < m.length) (e : j ≠ i) (hg : w.grownBy w' (vs.getD i nilRow).ownBlock) : Own w' lo (vs.getD j nilRow) (m.getD j []) :=
  World.ownsRow.kept (h.row j hj) hg (h.apart j i hj hi' e)

/-- A new row is laid at a place of the outer one. -/
theorem MatV.lay {w w' : World} {lo hi g n cap : Nat} {vs : List Value} {m : List (List Int)} (h : MatV w lo hi (.slice (some ⟨g, 0, none⟩) n cap) vs m) (i : Nat) (hi' : i < m.length) (hb : Below w.heap.size w w') (u : Value) (r : List Int) (ho : Own w' w.heap.size u r)
    (hlo : lo ≤ w.heap.size) (hh : hi ≤ w.heap.size) :
    MatV (w'.setCell ⟨g, i, none⟩ u) lo (w'.setCell ⟨g, i, none⟩ u).heap.size (.slice (some ⟨g, 0, none⟩) n cap) (vs.set i u) (m.set i r) ∧ w'.grownBy (w'.setCell ⟨g, i, none⟩ u) (some g) := by
  have hl : i < vs.length := by rw [h.len]; exact hi'
  obtain rfl := h.lenEq
  have st := (ownsRow_below h.head hb).stored i u
  have ho' : Own w' lo u r := Own.mono ho hlo
  have hgu : u.ownBlock = none ∨ u.ownBlock ≠ (some g : Option Nat) := by
    cases hu : u.ownBlock with
    | none => exact .inl rfl
    | some k =>
      right
      intro e
      cases e
      have h1 := (World.ownsRow.lt ho _ hu).1
      have h2 := h.top g rfl
      omega
  refine ⟨⟨by rw [List.length_set, List.length_set]; exact h.len, ?_, ?_, ?_, ?_, ?_⟩, st.2⟩
  · rw [List.length_set]
    exact st.1
  · intro j hj
    rw [List.length_set] at hj
    rw [getD_set _ _ _ _ _ hi', getD_set _ _ _ _ _ hl]
    by_cases e : j = i
    · subst e
      rw [if_pos rfl, if_pos rfl]
      exact World.ownsRow.kept ho' st.2 hgu
    · rw [if_neg e, if_neg e]
      exact World.ownsRow.kept ((h.row j hj).below hb) st.2 (heads_apart' h.head (h.row j hj))
  · intro k hk
    have h1 := h.top k hk
    have h2 := hb.size
    have h3 := st.2.size
    omega
  · intro j k hj hk
    rw [List.length_set] at hj
    rw [getD_set _ _ _ _ _ hl] at hk
    have h2 := hb.size
    have h3 := st.2.size
    by_cases e : j = i
    · rw [if_pos e] at hk
      have := (World.ownsRow.lt ho k hk).2
      omega
    · rw [if_neg e] at hk
      have := h.tops j k hj hk
      omega
  · intro j k hj hk hjk
    rw [List.length_set] at hj hk
    rw [getD_set _ _ _ _ _ hl, getD_set _ _ _ _ _ hl]
    by_cases e : j = i
    · rw [if_pos e, if_neg (by omega)]
      cases hu : u.ownBlock with
      | none => exact .inl rfl
      | some b =>
        right
        intro e'
        have h1 := (World.ownsRow.lt ho b hu).1
        have h2 := h.tops k b hk e'.symm
        omega
    · rw [if_neg e]
      by_cases e2 : k = i
      · rw [if_pos e2]
        cases hu : (vs.getD j nilRow).ownBlock with
        | none => exact .inl rfl
        | some b =>
          right
          intro e'
          have h1 := (World.ownsRow.lt ho b e'.symm).1
          have h2 := h.tops j b hj hu
          omega
      · rw [if_neg e2]
        exact h.apart j k hj hk hjk

/-- A new row behind the others, the outer row grown (or laid anew). -/
theorem MatV.push {w w1 w2 : World} {lo hi : Nat} {v v' u : Value} {vs : List Value} {m : List (List Int)} {r : List Int} (h : MatV w lo hi v vs m) (hb : Below w.heap.size w w1) (ho : Own w1 w.heap.size u r) (hh : hi ≤ w.heap.size) (hlo : lo ≤ w.heap.size)
    (ho2 : w2.ownsRow lo 31 1 v' (m.length + 1) (vs ++ [u])) (hg : w1.grownBy w2 v.ownBlock) : MatV w2 lo w2.heap.size v' (vs ++ [u]) (m ++ [r]) := by
  have get : ∀ j, j < m.length → (vs ++ [u]).getD j nilRow = vs.getD j nilRow ∧ (m ++ [r]).getD j [] = m.getD j [] := by
    intro j hj
    simp only [List.getD_eq_getElem?_getD]
    rw [List.getElem?_append_left (by rw [h.len]; exact hj), List.getElem?_append_left hj]
    exact ⟨rfl, rfl⟩
  have getl : (vs ++ [u]).getD m.length nilRow = u ∧ (m ++ [r]).getD m.length [] = r := by
    simp only [List.getD_eq_getElem?_getD]
    rw [List.getElem?_append_right (by rw [h.len]; exact Nat.le_refl _), List.getElem?_append_right (Nat.le_refl _), h.len, Nat.sub_self]
    exact ⟨rfl, rfl⟩
  have hs1 := hb.size
  have hs2 := hg.size
  have hu : u.ownBlock = none ∨ u.ownBlock ≠ v.ownBlock := by
    cases hu : u.ownBlock with
    | none => exact .inl rfl
    | some b =>
      right
      intro e
      have h1 := (World.ownsRow.lt ho b hu).1
      have h2 := h.top b e.symm
      omega
  have top2 : ∀ k, v'.ownBlock = some k → k < w2.heap.size := fun k hk => (World.ownsRow.lt ho2 k hk).2
  refine ⟨by simp [h.len], by rw [List.length_append]; exact ho2, ?_, top2, ?_, ?_⟩
  · intro j hj
    rw [List.length_append, List.length_singleton] at hj
    by_cases e : j = m.length
    · subst e
      rw [getl.1, getl.2]
      exact World.ownsRow.kept (Own.mono ho hlo) hg hu
    · rw [(get j (by omega)).1, (get j (by omega)).2]
      exact World.ownsRow.kept ((h.row j (by omega)).below hb) hg (heads_apart' h.head (h.row j (by omega)))
  · intro j k hj hk
    rw [List.length_append, List.length_singleton] at hj
    by_cases e : j = m.length
    · subst e
      rw [getl.1] at hk
      have := (World.ownsRow.lt ho k hk).2
      omega
    · rw [(get j (by omega)).1] at hk
      have := h.tops j k (by omega) hk
      omega
  · intro j k hj hk hjk
    rw [List.length_append, List.length_singleton] at hj hk
    by_cases e : j = m.length
    · subst e
      rw [getl.1, (get k (by omega)).1]
      cases hu : u.ownBlock with
      | none => exact .inl rfl
      | some b =>
        right
        intro e'
        have h1 := (World.ownsRow.lt ho b hu).1
        have h2 := h.tops k b (by omega) e'.symm
        omega
    · rw [(get j (by omega)).1]
      by_cases e2 : k = m.length
      · subst e2
        rw [getl.1]
        cases hu : (vs.getD j nilRow).ownBlock with
        | none => exact .inl rfl
        | some b =>
          right
          intro e'
          have h1 := (World.ownsRow.lt ho b e'.symm).1
          have h2 := h.tops j b (by omega) hu
          omega
      · rw [(get k (by omega)).1]
        exact h.apart j k (by omega) (by omega) hjk

/-- What a law holds: a list of integers, or rows of them. -/
structure Thing where
  one : Bool
  row : List Int
  rows : List (List Int)
abbrev Thing.ints (xs : List Int) : Thing := ⟨true, xs, []⟩
abbrev Thing.mat (m : List (List Int)) : Thing := ⟨false, [], m⟩
def Thing.ok (w : World) (lo hi : Nat) (v : Value) : Thing → Prop
  | ⟨true, xs, _⟩ => Own w lo v xs ∧ ∀ k, v.ownBlock = some k → k < hi
  | ⟨false, _, m⟩ => Mat w lo hi v m
theorem Thing.chg {w w' : World} {lo hi a b : Nat} {v : Value} {t : Thing} (h : t.ok w lo hi v) (hc : Chg a b w w') (hd : hi ≤ a ∨ b ≤ lo) : t.ok w' lo hi v := by
  obtain ⟨one, xs, m⟩ := t
  cases one with
  | true => exact ⟨Own.chg h.1 h.2 hc hd, h.2⟩
  | false =>
    obtain ⟨vs, h⟩ := h
    exact ⟨vs, h.chg hc hd⟩
/-- The newest on top; each lies above what was there ahead of it. -/
def Held (W w : World) : Nat → List (Value × Thing) → Prop
  | top, [] => W.heap.size ≤ top
  | top, (v, t) :: L => ∃ lo hi, t.ok w lo hi v ∧ lo ≤ hi ∧ hi ≤ top ∧ Held W w lo L
theorem Held.base {W w : World} : ∀ {top : Nat} {L : List (Value × Thing)}, Held W w top L → W.heap.size ≤ top
  | _, [], h => h
  | _, _ :: _, ⟨_, _, _, h1, h2, h⟩ => Nat.le_trans (Nat.le_trans (Held.base h) h1) h2
theorem Held.up {W w : World} {top top' : Nat} : ∀ {L : List (Value × Thing)}, Held W w top L → top ≤ top' → Held W w top' L
  | [], h, hl => Nat.le_trans h hl
  | _ :: _, ⟨lo, hi, h0, h1, h2, h⟩, hl => ⟨lo, hi, h0, h1, Nat.le_trans h2 hl, h⟩
theorem Held.chg {W w w' : World} {a b : Nat} (hc : Chg a b w w') : ∀ {top : Nat} {L : List (Value × Thing)}, Held W w top L → top ≤ a → Held W w' top L
  | _, [], h, _ => h
  | _, _ :: _, ⟨lo, hi, h0, h1, h2, h⟩, hl => ⟨lo, hi, Thing.chg h0 hc (.inl (by omega)), h1, h2, Held.chg hc h (by omega)⟩
theorem Held.open {W w : World} : ∀ {top : Nat} {L : List (Value × Thing)} {i : Nat} {v : Value} {t : Thing}, Held W w top L → L[i]? = some (v, t) →
    ∃ lo hi, t.ok w lo hi v ∧ W.heap.size ≤ lo ∧ hi ≤ top ∧ ∀ w' t', t'.ok w' lo hi v → Chg lo hi w w' → Held W w' top (L.set i (v, t'))
  | top, [], i, v, t, _, h => by simp at h
  | top, (v0, t0) :: L, 0, v, t, ⟨lo, hi, h0, h1, h2, h⟩, hi' => by
    simp at hi'
    obtain ⟨rfl, rfl⟩ := hi'
    refine ⟨lo, hi, h0, h.base, h2, fun w' t' ht hc => ⟨lo, hi, ht, h1, h2, Held.chg hc h (Nat.le_refl _)⟩⟩
  | top, (v0, t0) :: L, i + 1, v, t, ⟨lo, hi, h0, h1, h2, h⟩, hi' => by
    obtain ⟨lo', hi2, ok, hb, ht, put⟩ := Held.open h (by simpa using hi')
    exact ⟨lo', hi2, ok, hb, by omega, fun w' t' ok' hc => ⟨lo, hi, Thing.chg h0 hc (.inr ht), h1, h2, put w' t' ok' hc⟩⟩
structure Hands (W w : World) (L : List (Value × Thing)) : Prop where
  below : Below W.heap.size W w
  held : Held W w w.heap.size L
theorem Hands.start (W : World) : Hands W W [] := ⟨Below.refl _ _, Nat.le_refl _⟩
theorem Hands.step {W w w' : World} {L : List (Value × Thing)} (h : Hands W w L) (hb : Below w.heap.size w w') : Hands W w' L :=
  ⟨h.below.trans (hb.mono h.below.size), (Held.chg (a := w.heap.size) (b := w.heap.size) (Chg.ofBelow hb) h.held (Nat.le_refl _)).up hb.size⟩
theorem Hands.addI {W w w' : World} {L : List (Value × Thing)} {v : Value} {xs : List Int} (h : Hands W w L) (hb : Below w.heap.size w w') (ho : Own w' w.heap.size v xs) : Hands W w' ((v, .ints xs) :: L) :=
  ⟨(h.step hb).below, w.heap.size, w'.heap.size, ⟨ho, ho.top⟩, hb.size, Nat.le_refl _, Held.chg (a := w.heap.size) (b := w.heap.size) (Chg.ofBelow hb) h.held (Nat.le_refl _)⟩
theorem Hands.addM {W w w' : World} {L : List (Value × Thing)} {v : Value} {m : List (List Int)} (h : Hands W w L) (hb : Below w.heap.size w w') (ho : Mat w' w.heap.size w'.heap.size v m) : Hands W w' ((v, .mat m) :: L) :=
  ⟨(h.step hb).below, w.heap.size, w'.heap.size, ho, hb.size, Nat.le_refl _, Held.chg (a := w.heap.size) (b := w.heap.size) (Chg.ofBelow hb) h.held (Nat.le_refl _)⟩
theorem Hands.open {W w : World} {L : List (Value × Thing)} {v : Value} {t : Thing} (h : Hands W w L) (i : Nat) (hi : L[i]? = some (v, t)) :
    ∃ lo hi, t.ok w lo hi v ∧ W.heap.size ≤ lo ∧ hi ≤ w.heap.size ∧ ∀ w' t', t'.ok w' lo hi v → Chg lo hi w w' → Hands W w' (L.set i (v, t')) := by
  obtain ⟨lo, hi', ok, hb, ht, put⟩ := Held.open h.held hi
  exact ⟨lo, hi', ok, hb, ht, fun w' t' ok' hc => ⟨h.below.trans (hc.below hb h.below.size), (put w' t' ok' hc).up hc.size⟩⟩
theorem Hands.rdI {W w : World} {L : List (Value × Thing)} {v : Value} {xs : List Int} (h : Hands W w L) (i : Nat) (hi : L[i]? = some (v, .ints xs)) : Rd w v xs := by
  obtain ⟨lo, hi', ok, _⟩ := h.open i hi
  exact ok.1.rd
theorem Hands.rdM {W w : World} {L : List (Value × Thing)} {v : Value} {m : List (List Int)} (h : Hands W w L) (i : Nat) (hi : L[i]? = some (v, .mat m)) : RdM w v m := by
  obtain ⟨lo, hi', ok, _⟩ := h.open i hi
  exact Mat.rd ok
end Go.Proofs.YtcmohfckhikejaaDoor

namespace Go.Proofs.YtcmohfckhikejaaDoor
open Go.RowKit

def tot (m : List (List Int)) : Nat := (m.map List.length).sum
theorem tot_nil : tot [] = 0 := rfl
theorem tot_take_succ (m : List (List Int)) (k : Nat) (h : k < m.length) : tot (m.take (k + 1)) = tot (m.take k) + (m.getD k []).length := by
  unfold tot
  rw [List.take_succ_eq_append_getElem h, List.map_append, List.sum_append]
  simp [List.getD_eq_getElem?_getD, List.getElem?_eq_getElem h]
theorem tot_app (a b : List (List Int)) : tot (a ++ b) = tot a + tot b := by simp [tot]
theorem tot_take_le (m : List (List Int)) (k : Nat) : tot (m.take k) ≤ tot m := by
  have := congrArg tot (List.take_append_drop k m)
  rw [tot_app] at this
  omega
theorem tot_row_le (m : List (List Int)) (k : Nat) (h : k < m.length) : tot (m.take k) + (m.getD k []).length ≤ tot m := by
  rw [← tot_take_succ m k h]; exact tot_take_le m (k + 1)
theorem Own.shape {w : World} {base : Nat} {v : Value} {xs : List Int} (h : Own w base v xs) : ∃ a n c, v = .slice a n c := by
  rcases h.2 with ⟨rfl, _⟩ | ⟨g, cap, cur, rfl, _⟩
  · exact ⟨_, _, _, rfl⟩
  · exact ⟨_, _, _, rfl⟩

/-- 'make([][]int, n)': n rows of nothing of the call's own, in the next block. -/
theorem wpList_make_rows {w : World} {ops : Array Oper} {rest : List Oper} {o : Oper} {a : Act} {Q : Exit → Act → World → Prop} (hg : o.guard = none) (l c : Operand) (hop : o.op = Op.makeSlice 23 l c)
    (L C : Int) (n : Nat) (hl : a.eval l = .int .i64 L) (hc : a.eval c = .int .i64 C) (hL : L = (n : Int)) (hC : C = (n : Int)) (hn : n ≤ 1048576)
    (h : ∀ w', MatV w' w.heap.size w'.heap.size (.slice (some ⟨w.heap.size, 0, none⟩) n n) (List.replicate n nilRow) (List.replicate n []) → w.grownBy w' none → wpList Tryd.prog ops Q rest (a.put o.dst (.slice (some ⟨w.heap.size, 0, none⟩) n n)) w') : wpList Tryd.prog ops Q (o :: rest) a w := by
  obtain ⟨i0, hi, hz0, hz1, hz2⟩ := info_parts infoRow
  refine wpList_make_full w hg l c _ hop w.heap.size 31 i0 (.slice none 0 0) 1 Tryd.underlying23 hi hz0 hz1 _ _ L C n hl hc hL hC (by rw [hz2]; omega) (by unfold maxLen; omega) (Nat.le_refl _) ?_
  intro w' ho hg'
  refine h w' ?_ hg'
  have e : (madeCells (Value.slice none 0 0).cells (n * 1)).toList = List.replicate n nilRow := by
    rw [Nat.mul_one]; exact toList_madeCells_one _ n
  rw [e] at ho
  have g1 : ∀ i, i < n → (List.replicate n nilRow).getD i nilRow = nilRow := fun i hi => by simp [List.getD_eq_getElem?_getD, hi]
  refine ⟨by simp, by rw [List.length_replicate]; exact ho, ?_, fun k hk => (World.ownsRow.lt ho k hk).2, ?_, ?_⟩
  · intro i hi
    rw [List.length_replicate] at hi
    rw [g1 i hi]
    have g2 : (List.replicate n ([] : List Int)).getD i [] = [] := by simp [List.getD_eq_getElem?_getD, hi]
    rw [g2]
    exact World.ownsRow_nil _ _ _ _
  · intro i k hi hk
    rw [List.length_replicate] at hi
    rw [g1 i hi] at hk
    simp [Value.ownBlock] at hk
  · intro i j hi hj _
    rw [List.length_replicate] at hi
    rw [g1 i hi]
    exact .inl rfl

/-- The first k rows; nothing in the others. -/
def toTo (m : List (List Int)) (k : Nat) : List (List Int) := m.take k ++ List.replicate (m.length - k) []
theorem toTo_length (m : List (List Int)) (k : Nat) (h : k ≤ m.length) : (toTo m k).length = m.length := by simp [toTo]; omega
theorem toTo_step (m : List (List Int)) (k : Nat) (h : k < m.length) : (toTo m k).set k (m.getD k []) = toTo m (k + 1) := by
  have e1 : (m.take k).length = k := by simp; omega
  unfold toTo
  rw [List.set_append_right _ _ (by omega), e1, Nat.sub_self]
  obtain ⟨j, hm⟩ : ∃ j, m.length - k = j + 1 := ⟨m.length - k - 1, by omega⟩
  have hm2 : m.length - (k + 1) = j := by omega
  rw [hm, hm2, List.replicate_succ, List.set_cons_zero, List.take_succ_eq_append_getElem h, List.append_assoc]
  simp only [List.getD_eq_getElem?_getD, List.getElem?_eq_getElem h, Option.getD_some, List.singleton_append]
theorem toTo_end (m : List (List Int)) : toTo m m.length = m := by simp [toTo]
theorem toTo_zero (m : List (List Int)) : toTo m 0 = List.replicate m.length [] := by simp [toTo]

theorem quiet_more {P : Program} {f : FuncId} {args : Array Value} {w : World} {n : Nat} {v : Value}
    (h : Calls P f args (w.drewN n) fun e w' => e = .returned v ∧ ∃ m, w' = (w.drewN n).drewN m) : Calls P f args (w.drewN n) fun e w'' => e = .returned v ∧ ∃ m, w'' = w.drewN m :=
  h.mono fun _ _ ⟨he, m, hm⟩ => ⟨he, n + m, by rw [hm, World.drewN_drewN]⟩
theorem Rd.drewN {w : World} {v : Value} {xs : List Int} (h : Rd w v xs) (n : Nat) : Rd (w.drewN n) v xs := h.below (below_drewN' n)

/-- The rows' marks: each row's numbers go on where the row ahead of it stopped. -/
def mkM (k : Int) (m : List (List Int)) (j : Nat) : List Int := marks (k + tot (m.take j)) (m.getD j []).length
def mkToM (k : Int) (m : List (List Int)) (i : Nat) : List (List Int) := (List.range i).map (mkM k m) ++ m.drop i
def marksM (k : Int) (m : List (List Int)) : List (List Int) := (List.range m.length).map (mkM k m)
theorem mkToM_length (k : Int) (m : List (List Int)) (i : Nat) (h : i ≤ m.length) : (mkToM k m i).length = m.length := by simp [mkToM]; omega
theorem mkToM_get (k : Int) (m : List (List Int)) (i : Nat) : (mkToM k m i).getD i [] = m.getD i [] := by
  simp only [mkToM, List.getD_eq_getElem?_getD]
  rw [List.getElem?_append_right (by simp)]
  simp
theorem mkToM_step (k : Int) (m : List (List Int)) (i : Nat) (h : i < m.length) : (mkToM k m i).set i (mkM k m i) = mkToM k m (i + 1) := by
  unfold mkToM
  rw [List.set_append_right _ _ (by simp), List.length_map, List.length_range, Nat.sub_self, List.drop_eq_getElem_cons h, List.set_cons_zero]
  simp [List.range_succ]
theorem mkToM_end (k : Int) (m : List (List Int)) : mkToM k m m.length = marksM k m := by simp [mkToM, marksM]
theorem marksM_length (k : Int) (m : List (List Int)) : (marksM k m).length = m.length := by simp [marksM]
theorem marksM_get (k : Int) (m : List (List Int)) (i : Nat) (h : i < m.length) : (marksM k m).getD i [] = mkM k m i := by simp [marksM, h]

end Go.Proofs.YtcmohfckhikejaaDoor

namespace Go.Proofs.YtcmohfckhikejaaDoor
open Go.RowKit

theorem all_yes {α : Type} {l : List α} {d : α} {p : α → Bool} (h : ∀ i, i < l.length → p (l.getD i d) = true) : l.all p = true := by
  rw [List.all_eq_true]
  intro x hx
  obtain ⟨i, hi, rfl⟩ := List.mem_iff_getElem.1 hx
  have := h i hi
  rwa [List.getD_eq_getElem?_getD, List.getElem?_eq_getElem hi, Option.getD_some] at this
theorem all_at {α : Type} {l : List α} {d : α} {p : α → Bool} (h : l.all p = true) (i : Nat) (hi : i < l.length) : p (l.getD i d) = true := by
  rw [List.getD_eq_getElem?_getD, List.getElem?_eq_getElem hi, Option.getD_some]
  exact List.all_eq_true.1 h _ (List.getElem_mem hi)
theorem all_no {α : Type} {l : List α} {d : α} {p : α → Bool} {k : Nat} (hk : k < l.length) (h : p (l.getD k d) = false) : l.all p = false := by
  cases hh : l.all p with
  | false => rfl
  | true => rw [all_at hh k hk] at h; cases h
theorem Rd.row {w : World} {a : Option Addr} {n cap : Nat} {xs : List Int} (h : Rd w (.slice a n cap) xs) (i : Nat) (hi : i < xs.length) :
    ∃ b off u, a = some ⟨b, off, none⟩ ∧ w.cell? ⟨b, off + i, none⟩ = some u ∧ u = .int .i64 (xs.getD i 0) := by
  obtain ⟨a', cap', hv, _, _, h3⟩ := h
  simp only [Value.slice.injEq] at hv
  obtain ⟨rfl, rfl, rfl⟩ := hv
  rcases h3 with h3 | ⟨b, off, rfl, hlt, hc⟩
  · subst h3; simp at hi
  · exact ⟨b, off, _, rfl, hc i hi, rfl⟩

set_option maxRecDepth 100000 in
theorem isSide_calls (n : Int) (w : World) :
    Calls Tryd.prog 78 #[.int .i64 n] w fun e w' => e = .returned (.bool (decide (1 ≤ n ∧ n ≤ 8))) ∧ w = w' := by
  by_cases h : 1 ≤ n
  · by_cases h2 : n ≤ 8
    · rw [decide_eq_true ⟨h, h2⟩]
      go_enter Tryd.func78, Tryd.ntmps78
      go_wp2
      go_ret
      exact ⟨rfl, rfl⟩
    · rw [decide_eq_false (fun e => h2 e.2)]
      go_enter Tryd.func78, Tryd.ntmps78
      go_wp2
      go_ret
      exact ⟨rfl, rfl⟩
  · rw [decide_eq_false (fun e => h e.1)]
    go_enter Tryd.func78, Tryd.ntmps78
    go_wp2
    go_ret
    exact ⟨rfl, rfl⟩
set_option maxRecDepth 100000 in
theorem isLong_calls (u : Value) (r : List Int) (n : Int) (g : Nat) (w : World) (h : Rd w u r) (hg : w.cell? ⟨g, 0, none⟩ = some (.int .i64 n)) :
    Calls Tryd.prog 71 #[u, .pointer (some ⟨g, 0, none⟩)] w fun e w' => e = .returned (.bool ((fun r : List Int => decide ((r.length : Int) = n)) r)) ∧ w = w' := by
  obtain ⟨a, cap, rfl, h1, h2, h3⟩ := h
  clear h3 h2 h1
  by_cases h : (r.length : Int) = n
  · simp only [decide_eq_true h]
    have e : ((r.length : Int) == n) = true := by simp [h]
    have H := hide h
    clear h
    go_enter Tryd.func71, Tryd.ntmps71
    go_wp2
    go_ret
    exact ⟨rfl, rfl⟩
  · simp only [decide_eq_false h]
    have e : ((r.length : Int) == n) = false := by simp [h]
    go_enter Tryd.func71, Tryd.ntmps71
    go_wp2
    go_ret
    exact ⟨rfl, rfl⟩
theorem areEls_calls (v : Value) (xs : List Int) (w : World) (h : Rd w v xs) :
    Calls Tryd.prog 33 #[v] w fun e w' => e = .returned (.bool ((fun r : List Int => r.all Gf.elOk) xs)) ∧ w = w' := Gf.areElements_calls v xs w h
set_option maxRecDepth 100000 in
set_option maxHeartbeats 800000 in
theorem allLong_calls (v : Value) (m : List (List Int)) (n : Int) (g : Nat) (w : World) (h : RdM w v m) (hg : w.cell? ⟨g, 0, none⟩ = some (.int .i64 n)) :
    Calls Tryd.prog 31 #[v, .func (.func 71) #[] #[.pointer (some ⟨g, 0, none⟩)]] w fun e w' => e = .returned (.bool (m.all (fun r : List Int => decide ((r.length : Int) = n)))) ∧ w = w' := by
  have R := hide h
  obtain ⟨a, cap, rfl, h1, h2, h3⟩ := h
  have hm : m.length ≤ maxLen := by omega
  unfold maxLen at hm
  obtain ⟨p, hp⟩ : ∃ p, p = (fun r : List Int => decide ((r.length : Int) = n)) := ⟨_, rfl⟩
  rw [← hp]
  have HP := hide hp
  clear h3 h2 h1 hp
  go_enter Tryd.func31, Tryd.ntmps31
  go_wp2
  go_loop [9] (fun vi => ∃ k : Nat, k ≤ m.length ∧ vi = .int .i64 k ∧ ∀ i, i < k → p (m.getD i []) = true) (fun vi => m.length - (intOf vi).toNat)
  case atStart => exact ⟨0, Nat.zero_le _, rfl, fun i hi => by omega⟩
  case round =>
    obtain ⟨k, hk, rfl, hall⟩ := hrel
    have A := hide hall
    clear hall
    by_cases hlt : k < m.length
    · have hlt' : (k : Int) < (m.length : Int) := by omega
      obtain ⟨b, off, u, rfl, hc1, hu⟩ := R.out.row k hlt
      obtain ⟨r, hr⟩ : ∃ r, r = m.getD k [] := ⟨_, rfl⟩
      rw [← hr] at hu
      have U := hide hu
      have Hr := hide hr
      clear hu hr
      obtain ⟨q, hq⟩ : ∃ q, q = p r := ⟨_, rfl⟩
      have Q := hide hq
      have HC : Hid (Calls Tryd.prog 71 #[u, .pointer (some ⟨g, 0, none⟩)] w fun e w' => e = .returned (.bool q) ∧ w = w') := by
        rw [hq, HP.out]
        exact isLong_calls _ r _ _ _ U.out hg
      cases q with
      | true =>
        clear hq
        go_wp2_with (go_at_call 71; refine HC.out.mono ?_; rintro e w' ⟨rfl, rfl⟩)
        go_round
        case rel =>
          refine ⟨k + 1, by omega, by go_num, fun i hi => ?_⟩
          by_cases e : i = k
          · subst e; rw [← Hr.out, ← Q.out]
          · exact A.out i (by omega)
        case measure => simp [intOf]; omega
      | false =>
        clear hq
        go_wp2_with (go_at_call 71; refine HC.out.mono ?_; rintro e w' ⟨rfl, rfl⟩)
        go_ret
        exact ⟨Gf.ret_bool (all_no hlt (by rw [← Hr.out, ← Q.out])).symm, rfl⟩
    · obtain rfl : k = m.length := by omega
      go_wp2
      go_ret
      exact ⟨Gf.ret_bool (all_yes A.out).symm, rfl⟩
set_option maxRecDepth 100000 in
set_option maxHeartbeats 800000 in
theorem allEls_calls (v : Value) (m : List (List Int))  (w : World) (h : RdM w v m) :
    Calls Tryd.prog 31 #[v, .func (.func 33) #[] #[]] w fun e w' => e = .returned (.bool (m.all (fun r : List Int => r.all Gf.elOk))) ∧ w = w' := by
  have R := hide h
  obtain ⟨a, cap, rfl, h1, h2, h3⟩ := h
  have hm : m.length ≤ maxLen := by omega
  unfold maxLen at hm
  obtain ⟨p, hp⟩ : ∃ p, p = (fun r : List Int => r.all Gf.elOk) := ⟨_, rfl⟩
  rw [← hp]
  have HP := hide hp
  clear h3 h2 h1 hp
  go_enter Tryd.func31, Tryd.ntmps31
  go_wp2
  go_loop [9] (fun vi => ∃ k : Nat, k ≤ m.length ∧ vi = .int .i64 k ∧ ∀ i, i < k → p (m.getD i []) = true) (fun vi => m.length - (intOf vi).toNat)
  case atStart => exact ⟨0, Nat.zero_le _, rfl, fun i hi => by omega⟩
  case round =>
    obtain ⟨k, hk, rfl, hall⟩ := hrel
    have A := hide hall
    clear hall
    by_cases hlt : k < m.length
    · have hlt' : (k : Int) < (m.length : Int) := by omega
      obtain ⟨b, off, u, rfl, hc1, hu⟩ := R.out.row k hlt
      obtain ⟨r, hr⟩ : ∃ r, r = m.getD k [] := ⟨_, rfl⟩
      rw [← hr] at hu
      have U := hide hu
      have Hr := hide hr
      clear hu hr
      obtain ⟨q, hq⟩ : ∃ q, q = p r := ⟨_, rfl⟩
      have Q := hide hq
      have HC : Hid (Calls Tryd.prog 33 #[u] w fun e w' => e = .returned (.bool q) ∧ w = w') := by
        rw [hq, HP.out]
        exact areEls_calls _ r _ U.out
      cases q with
      | true =>
        clear hq
        go_wp2_with (go_at_call 33; refine HC.out.mono ?_; rintro e w' ⟨rfl, rfl⟩)
        go_round
        case rel =>
          refine ⟨k + 1, by omega, by go_num, fun i hi => ?_⟩
          by_cases e : i = k
          · subst e; rw [← Hr.out, ← Q.out]
          · exact A.out i (by omega)
        case measure => simp [intOf]; omega
      | false =>
        clear hq
        go_wp2_with (go_at_call 33; refine HC.out.mono ?_; rintro e w' ⟨rfl, rfl⟩)
        go_ret
        exact ⟨Gf.ret_bool (all_no hlt (by rw [← Hr.out, ← Q.out])).symm, rfl⟩
    · obtain rfl : k = m.length := by omega
      go_wp2
      go_ret
      exact ⟨Gf.ret_bool (all_yes A.out).symm, rfl⟩

set_option maxRecDepth 100000 in
theorem areAllLong_calls (v : Value) (m : List (List Int)) (n : Int) (w : World) (h : RdM w v m) :
    Calls Tryd.prog 49 #[v, .int .i64 n] w fun e w' => e = .returned (.bool (m.all fun r : List Int => decide ((r.length : Int) = n))) ∧ Below w.heap.size w w' := by
  have R := hide h
  have S : ∃ a n c, v = .slice a n c := by
    obtain ⟨a, cap, rfl, _⟩ := h
    exact ⟨_, _, _, rfl⟩
  obtain ⟨a, k, c, rfl⟩ := S
  clear h
  go_enter Tryd.func49, Tryd.ntmps49
  go_wp2_with fail
  refine (allLong_calls _ m n _ _ (R.out.below ((Below.refl _ _).alloc (Nat.le_refl _) _)) (World.cell?_alloc_at _ _ _ _ rfl)).mono ?_
  rintro e w' ⟨rfl, rfl⟩
  go_wp2
  go_ret
  exact ⟨rfl, (Below.refl _ _).alloc (Nat.le_refl _) _⟩

/-- What both call a matrix. -/
def goodM (m : List (List Int)) : Bool :=
  decide (1 ≤ (m.length : Int) ∧ (m.length : Int) ≤ 8) && (decide (1 ≤ ((m.getD 0 []).length : Int) ∧ ((m.getD 0 []).length : Int) ≤ 8) && (m.all (fun r : List Int => decide ((r.length : Int) = ((m.getD 0 []).length : Int))) && m.all (fun r : List Int => r.all Gf.elOk)))
theorem goodM_rows {m : List (List Int)} (h : goodM m = true) : 1 ≤ m.length ∧ m.length ≤ 8 ∧ 1 ≤ (m.getD 0 []).length ∧ (m.getD 0 []).length ≤ 8 ∧ ∀ i, i < m.length → (m.getD i []).length = (m.getD 0 []).length ∧ (m.getD i []).all Gf.elOk = true := by
  simp only [goodM, Bool.and_eq_true, decide_eq_true_eq] at h
  obtain ⟨h1, h2, h3, h4⟩ := h
  refine ⟨by omega, by omega, by omega, by omega, fun i hi => ⟨?_, all_at h4 i hi⟩⟩
  have := all_at (d := []) h3 i hi
  simp only [decide_eq_true_eq] at this
  omega
theorem goodM_tot {m : List (List Int)} (h : goodM m = true) : m.length + tot m ≤ 1048576 := by
  obtain ⟨h1, h2, h3, h4, h5⟩ := goodM_rows h
  have : ∀ k, k ≤ m.length → tot (m.take k) ≤ 8 * k := by
    intro k
    induction k with
    | zero => intro _; simp [tot]
    | succ k ih =>
      intro hk
      rw [tot_take_succ m k (by omega)]
      have := ih (by omega)
      have := (h5 k (by omega)).1
      omega
  have := this m.length (Nat.le_refl _)
  rw [List.take_length] at this
  omega

end Go.Proofs.YtcmohfckhikejaaDoor

namespace Go.Proofs.YtcmohfckhikejaaDoor
open Go.RowKit

/-- 'append(out, row)', out rows of the call's own, row a new list of its own. -/
theorem wpList_append_row {w W1 : World} {ops : Array Oper} {rest : List Oper} {o : Oper} {a : Act} {Q : Exit → Act → World → Prop} (hgd : o.guard = none) (s x : Operand)
    (ho : o.op = .call { callee := .builtin .append, args := #[s, x], argTypes := #[23, 23] })
    (lo hi : Nat) (v : Value) (vs : List Value) (m : List (List Int)) (hs : a.eval s = v) (h : MatV w lo hi v vs m) (hb : Below w.heap.size w W1) (u : Value) (r : List Int) (hu : Own W1 w.heap.size u r) (hh : hi ≤ w.heap.size) (hlo : lo ≤ w.heap.size)
    (g : Nat) (hx : a.eval x = .slice (some ⟨g, 0, none⟩) 1 1) (hcell : W1.cell? ⟨g, 0, none⟩ = some u) (hn : m.length ≤ 1048576)
    (K : ∀ v' w2, MatV w2 lo w2.heap.size v' (vs ++ [u]) (m ++ [r]) → Below lo w w2 → wpList Tryd.prog ops Q rest (a.put o.dst v') w2) : wpList Tryd.prog ops Q (o :: rest) a W1 := by
  obtain ⟨i0, hi0, hz0, hz1, hz2⟩ := info_parts infoRow
  have hsz := hb.size
  refine wpList_append_own (w := W1) hgd s x _ ho lo _ i0 (.slice none 0 0) 1 24 Tryd.underlying23 hi0 hz0 hz1 hz2 rfl (by decide) v m.length vs hs (ownsRow_below h.head hb) ⟨g, 0, none⟩ 1 1 [u] hx (by simp) ?_ ?_ (by unfold maxLen; omega) (by omega) (by omega) ?_
  · intro j y hj
    cases j with
    | zero =>
      simp at hj
      subst hj
      have hadd : (⟨g, 0, none⟩ : Addr).add 0 = ⟨g, 0, none⟩ := by unfold Addr.add; split <;> simp_all
      rw [hadd]; exact hcell
    | succ j => simp at hj
  · intro y hy
    simp at hy
    subst hy
    obtain ⟨xa, xn, xc, rfl⟩ := hu.shape
    rfl
  · intro v' w2 ho2 hg2 _
    exact K v' w2 (h.push hb hu hh hlo ho2 hg2) ((hb.mono hlo).grown hg2 (by omega) (fun k hk => (World.ownsRow.lt h.head k hk).1))

theorem map_range_set {α : Type} (f : Nat → α) (n k : Nat) (x : α) : ((List.range n).map f).set k x = (List.range n).map (fun i => if i = k then x else f i) := by
  apply List.ext_getElem?
  intro i
  rw [List.getElem?_set]
  by_cases hi : i < n
  · by_cases e : k = i
    · subst e; simp [hi]
    · rw [if_neg e, List.getElem?_map, List.getElem?_map, List.getElem?_range hi]
      simp only [Option.map_some]
      rw [if_neg (fun h => e h.symm)]
  · simp [hi]; omega
/-- Row i of the identity of n. -/
def unitRow (n i : Nat) : List Int := (List.replicate n (0 : Int)).set i 1
def identM (n : Nat) : List (List Int) := (List.range n).map (unitRow n)
def identTo (n k : Nat) : List (List Int) := (List.range n).map fun i => if i < k then unitRow n i else List.replicate n 0
theorem identM_length (n : Nat) : (identM n).length = n := by simp [identM]
theorem identM_get (n i : Nat) (h : i < n) : (identM n).getD i [] = unitRow n i := by simp [identM, h]
theorem unitRow_length (n i : Nat) : (unitRow n i).length = n := by simp [unitRow]
theorem identTo_length (n k : Nat) : (identTo n k).length = n := by simp [identTo]
theorem identTo_get (n k : Nat) (h : k < n) : (identTo n k).getD k [] = List.replicate n 0 := by simp [identTo, h]
theorem identTo_step (n k : Nat) : (identTo n k).set k (unitRow n k) = identTo n (k + 1) := by
  unfold identTo
  rw [map_range_set]
  apply List.map_congr_left
  intro i _
  by_cases e : i = k
  · subst e; simp
  · rw [if_neg e]
    by_cases h : i < k
    · rw [if_pos h, if_pos (by omega)]
    · rw [if_neg h, if_neg (by omega)]
theorem identTo_zero (n : Nat) : identTo n 0 = List.replicate n (List.replicate n 0) := by
  unfold identTo
  apply List.ext_getElem?
  intro i
  by_cases hi : i < n
  · simp [hi]
  · simp [hi]
theorem identTo_end (n : Nat) : identTo n n = identM n := by
  unfold identTo identM
  apply List.map_congr_left
  intro i hi
  rw [if_pos (List.mem_range.1 hi)]

set_option maxRecDepth 100000 in
set_option maxHeartbeats 800000 in
theorem newRows_calls (n l : Nat) (w : World) (hn : n ≤ 1048576) (hl : l ≤ 1048576) :
    Calls Tryd.prog 67 #[.int .i64 n, .int .i64 l] w fun e w' => ∃ v', e = .returned v' ∧ Mat w' w.heap.size w'.heap.size v' (List.replicate n (List.replicate l 0)) ∧ Below w.heap.size w w' := by
  obtain ⟨MM, hM⟩ : ∃ M : List (List Int), M = List.replicate n (List.replicate l 0) := ⟨_, rfl⟩
  rw [← hM]
  have hMl : MM.length = n := by rw [hM]; simp
  have hMg : ∀ k, k < n → MM.getD k [] = List.replicate l 0 := fun k hk => by rw [hM]; simp [hk]
  have HL := hide hMl
  have HG := hide hMg
  clear hM hMl hMg
  go_enter Tryd.func67, Tryd.ntmps67
  go_wp2_with (at_make; refine wpList_make_rows rfl _ _ rfl _ _ n rfl rfl (by omega) (by omega) hn ?_)
  intro w0 hm0 hg0
  have M0 := hide hm0
  have G0 := hide hg0
  clear hm0 hg0
  go_wp2
  go_loopw [11] (fun vi wr => ∃ (k : Nat) (vs : List Value), k ≤ n ∧ vi = .int .i64 k ∧ MatV wr w.heap.size wr.heap.size (.slice (some ⟨w.heap.size, 0, none⟩) n n) vs (toTo MM k) ∧ Below w.heap.size w wr) (fun vi _ => n - (intOf vi).toNat)
  case atStart =>
    refine ⟨0, List.replicate n nilRow, Nat.zero_le _, rfl, ?_, (Below.refl _ _).grown G0.out (Nat.le_refl _) (fun k h => by cases h)⟩
    rw [toTo_zero, HL.out]
    exact M0.out
  case round =>
    obtain ⟨k, vs, hk, rfl, hm, hb⟩ := hrel
    have M := hide hm
    have B := hide hb
    clear hm hb
    by_cases hlt : k < n
    · have hlt' : (k : Int) < (n : Int) := by omega
      go_wp2_with (at_make; refine wpList_make_ints rfl _ _ rfl wr.heap.size _ _ l rfl rfl (by omega) (by omega) (by omega) (Nat.le_refl _) ?_)
      intro w1 hx hg1
      have hb1 : Below wr.heap.size wr w1 := (Below.refl _ _).grown hg1 (Nat.le_refl _) (fun k h => by cases h)
      have hkl : k < (toTo MM k).length := by rw [toTo_length _ k (by rw [HL.out]; exact hk), HL.out]; exact hlt
      have hM1 := M.out.below hb1
      have hc2 : w1.frozen? ⟨w.heap.size, k, none⟩ = false := World.ownsRow.frozenAt (by have := hM1.head; rwa [← hM1.lenEq] at this) k
      have hc3 := hM1.cell k hkl
      have L := hide (M.out.lay k hkl hb1 _ _ hx M.out.sizeLo (Nat.le_refl _))
      have B1 := hide hb1
      clear hM1 hx hb1 hg1
      go_wp2
      go_roundw
      case rel =>
        refine ⟨k + 1, vs.set k (.slice (some ⟨wr.heap.size, 0, none⟩) l l), by omega, by go_num, ?_, ?_⟩
        · have := L.out.1
          rw [← HG.out k hlt, toTo_step _ k (by rw [HL.out]; exact hlt)] at this
          exact this
        · exact (B.out.trans (B1.out.mono B.out.size)).setCell (Nat.le_refl _) _
      case measure => simp [intOf]; omega
    · obtain rfl : k = n := by omega
      go_wp2
      go_ret
      have hm := M.out
      have e := toTo_end MM
      rw [HL.out] at e
      rw [e] at hm
      exact ⟨_, rfl, ⟨_, hm⟩, B.out⟩

theorem Own.open1 {w : World} {base : Nat} {v : Value} {xs : List Int} (h : Own w base v xs) (hn : 0 < xs.length) :
    ∃ g cap, v = .slice (some ⟨g, 0, none⟩) xs.length cap ∧ base ≤ g ∧ g < w.heap.size ∧ xs.length ≤ cap ∧ cap ≤ maxLen := by
  rcases h.2 with ⟨_, h0⟩ | ⟨g, cap, cur, rfl, hb, hg, hc, hm, _⟩
  · omega
  · exact ⟨g, cap, rfl, hb, (Array.getElem?_eq_some_iff.1 hg).1, hc, hm⟩
/-- One cell of an owned list is written. -/
theorem Own.put {w : World} {base g n cap : Nat} {xs : List Int} (h : Own w base (.slice (some ⟨g, 0, none⟩) n cap) xs) (i : Nat) (x : Int) :
    Own (w.setCell ⟨g, i, none⟩ (.int .i64 x)) base (.slice (some ⟨g, 0, none⟩) n cap) (xs.set i x) ∧ w.grownBy (w.setCell ⟨g, i, none⟩ (.int .i64 x)) (some g) := by
  have hn : n = xs.length := by
    rcases h.2 with ⟨h', _⟩ | ⟨g', cap', cur, h', _⟩
    · simp at h'
    · simp at h'; exact h'.2.1
  subst hn
  have := World.ownsRow.stored h i (.int .i64 x)
  refine ⟨?_, this.2⟩
  have h1 := this.1
  rw [← List.map_set] at h1
  show World.ownsRow _ _ _ _ _ (xs.set i x).length _
  rw [List.length_set]
  exact h1
theorem Own.at {w : World} {base g n cap : Nat} {xs : List Int} (h : Own w base (.slice (some ⟨g, 0, none⟩) n cap) xs) (i : Nat) (hi : i < xs.length) :
    w.frozen? ⟨g, i, none⟩ = false ∧ w.cell? ⟨g, i, none⟩ = some (.int .i64 (xs.getD i 0)) := by
  have hn : n = xs.length := by
    rcases h.2 with ⟨h', _⟩ | ⟨g', cap', cur, h', _⟩
    · simp at h'
    · simp at h'; exact h'.2.1
  subst hn
  refine ⟨World.ownsRow.frozenAt h i, ?_⟩
  rw [World.ownsRow.cellAt h i (by omega)]
  simp [hi]

set_option maxRecDepth 100000 in
set_option maxHeartbeats 800000 in
theorem identity_calls (n : Nat) (w : World) (h0 : 1 ≤ n) (h8 : n ≤ 8) :
    Calls Tryd.prog 59 #[.int .i64 n] w fun e w' => ∃ v', e = .returned v' ∧ Mat w' w.heap.size w'.heap.size v' (identM n) ∧ Below w.heap.size w w' := by
  go_enter Tryd.func59, Tryd.ntmps59
  go_wp2_with fail
  refine (newRows_calls n n _ (by omega) (by omega)).mono ?_
  rintro e w1 ⟨v1, rfl, ⟨vs, hm⟩, hb⟩
  rw [← identTo_zero] at hm
  obtain ⟨g, cap, rfl, hg1, hg2, hg3, hg4⟩ := hm.open (by rw [identTo_length]; omega)
  rw [identTo_length] at *
  have M0 := hide hm
  have B0 := hide hb
  clear hm hb
  go_wp2
  go_loopw [10] (fun vi wr => ∃ (k : Nat), k ≤ n ∧ vi = .int .i64 k ∧ MatV wr w.heap.size w1.heap.size (.slice (some ⟨g, 0, none⟩) n cap) vs (identTo n k) ∧ Chg w.heap.size w1.heap.size w1 wr) (fun vi _ => n - (intOf vi).toNat)
  case atStart => exact ⟨0, Nat.zero_le _, rfl, M0.out, Chg.refl _ _ _⟩
  case round =>
    obtain ⟨k, hk, rfl, hM, hC⟩ := hrel
    by_cases hlt : k < n
    · have hlt' : (k : Int) < (n : Int) := by omega
      have hkl : k < (identTo n k).length := by rw [identTo_length]; exact hlt
      have hc1 := hM.cell k hkl
      have hro := hM.row k hkl
      rw [identTo_get n k hlt] at hro
      obtain ⟨u, hu⟩ : ∃ u, u = vs.getD k nilRow := ⟨_, rfl⟩
      rw [← hu] at hc1 hro
      obtain ⟨g', cap', rfl, hq1, hq2, hq3, hq4⟩ := hro.open1 (by simp; omega)
      simp only [List.length_replicate] at hc1 hro hq3 hu
      obtain ⟨hf, hc⟩ := hro.at k (by simp; exact hlt)
      have W := hide (hro.put k 1)
      have U := hide hu
      have M := hide hM
      have C := hide hC
      clear hu hM hC hro
      go_wp2
      go_roundw
      case rel =>
        have hw := W.out
        have hg := hw.2
        have ho := hw.1
        have hU := U.out
        rw [show (some g' : Option Nat) = (vs.getD k nilRow).ownBlock from by rw [← hU]; rfl] at hg
        rw [hU] at ho
        refine ⟨k + 1, by omega, by go_num, ?_, C.out.trans (M.out.writeChg k hkl hg)⟩
        have := M.out.write k hkl (unitRow n k) ho hg
        rwa [identTo_step] at this
      case measure => simp [intOf]; omega
    · obtain rfl : k = n := by omega
      rw [identTo_end] at hM
      have M := hide hM
      have C := hide hC
      clear hM hC
      go_wp2
      go_ret
      have hs := C.out.size
      exact ⟨_, rfl, ⟨_, M.out.wider (Nat.le_refl _) hs⟩, Below.thenChg B0.out C.out (Nat.le_refl _)⟩

set_option maxRecDepth 100000 in
set_option maxHeartbeats 800000 in
theorem l2Identity_calls (n : Nat) (w : World) (h0 : 1 ≤ n) (h8 : n ≤ 8) :
    Calls Tryd.prog 65 #[.int .i64 n] w fun e w' => ∃ v', e = .returned v' ∧ Mat w' w.heap.size w'.heap.size v' (identM n) ∧ Below w.heap.size w w' := by
  obtain ⟨I, hI⟩ : ∃ I, I = identM n := ⟨_, rfl⟩
  rw [← hI]
  have HI := hide hI
  clear hI
  go_enter Tryd.func65, Tryd.ntmps65
  go_wp2
  go_loopw [3, 4] (fun vo vi wr => ∃ (k : Nat) (vs : List Value), k ≤ n ∧ vi = .int .i64 k ∧ MatV wr w.heap.size wr.heap.size vo vs (I.take k) ∧ Below w.heap.size w wr) (fun _ vi _ => n - (intOf vi).toNat)
  case atStart =>
    obtain ⟨vs, hv⟩ := Mat.nil w w.heap.size w.heap.size
    exact ⟨0, vs, Nat.zero_le _, rfl, hv, Below.refl _ _⟩
  case round =>
    obtain ⟨k, vs, hk, rfl, hM, hB⟩ := hrel
    have M := hide hM
    have B := hide hB
    clear hM hB
    by_cases hlt : k < n
    · have hlt' : (k : Int) < (n : Int) := by omega
      go_wp2_with (at_make; refine wpList_make_ints rfl _ _ rfl wr.heap.size _ _ n rfl rfl (by omega) (by omega) (by omega) (Nat.le_refl _) ?_)
      intro w1 hx hg1
      have hb1 : Below wr.heap.size wr w1 := (Below.refl _ _).grown hg1 (Nat.le_refl _) (fun k h => by cases h)
      obtain ⟨hf, hc⟩ := hx.at k (by simp; exact hlt)
      have hp := hx.put k 1
      have hb2 := hb1.setCell (p := ⟨wr.heap.size, k, none⟩) (Nat.le_refl _) (.int .i64 1)
      have O2 := hide hp.1
      have B2 := hide hb2
      clear hx hg1 hb1 hp hb2
      go_wp2_with (at_builtin; go_loud (refine wpList_append_row rfl _ _ rfl w.heap.size wr.heap.size _ vs (I.take k) rfl M.out (B2.out.alloc B2.out.size _) _ (unitRow n k) (O2.out.below ((Below.refl _ _).alloc (Nat.le_refl _) _)) (Nat.le_refl _) B.out.size _ rfl (World.cell?_alloc_at _ _ _ _ (by simp)) (by simp; omega) ?_))
      intro v2 w2 hM2 hB2
      have M2 := hide hM2
      have B3 := hide hB2
      clear hM2 hB2
      go_wp2
      go_roundw
      case rel =>
        refine ⟨k + 1, vs ++ [.slice (some ⟨wr.heap.size, 0, none⟩) n n], by omega, by go_num, ?_, B.out.trans B3.out⟩
        · have := M2.out
          have e : I.take k ++ [unitRow n k] = I.take (k + 1) := by
            have hl : k < I.length := by rw [HI.out, identM_length]; exact hlt
            rw [List.take_succ_eq_append_getElem hl]
            have := identM_get n k hlt
            rw [← HI.out, List.getD_eq_getElem?_getD, List.getElem?_eq_getElem hl, Option.getD_some] at this
            rw [this]
          rw [e] at this
          exact this
      case measure => simp [intOf]; omega
    · obtain rfl : k = n := by omega
      go_wp2
      go_ret
      have hm := M.out
      rw [List.take_of_length_le (by rw [HI.out, identM_length]; exact Nat.le_refl _)] at hm
      exact ⟨_, rfl, ⟨_, hm⟩, B.out⟩
end Go.Proofs.YtcmohfckhikejaaDoor
