/-
  Multiples of a list added to another place by place: the program's function. The contract says what it asks. Rows made: 'append(out, row)', new rows of noughts, copies of a list, the identity: the program's functions and its model's, call by call. Each contract says what it asks. Rows of elements scaled and added, in place: the program's functions and its model's, call by call. Each contract says what it asks. Products of matrices: the program's function and its model's, call by call. The program's table of rests must hold its seven numbers where the program's own functions are called.
-/
import Derived.Test.YtbgadbokejaomaaGreatDoorRewriteAtB20
namespace Go.Proofs.YtbgadbokejaomaaGreatDoor
open Go.RowKit
namespace Gf

/-- A slice's length, for a loop's measure. -/
def lenOf : Value → Nat
  | .slice _ n _ => n
  | _ => 0
def ci (l : List Nat) : List Int := l.map fun n : Nat => (n : Int)
theorem ci_length (l : List Nat) : (ci l).length = l.length := by simp [ci]
theorem ci_getD (l : List Nat) (i : Nat) : (ci l).getD i 0 = ((l.getD i 0 : Nat) : Int) := by
  simp only [ci, List.getD_eq_getElem?_getD, List.getElem?_map]
  cases l[i]? <;> simp
theorem ci_set (l : List Nat) (i n : Nat) : (ci l).set i (n : Int) = ci (l.set i n) := by simp [ci, List.map_set]
def AllLt (l : List Nat) : Prop := ∀ i, l.getD i 0 < 256
theorem AllLt.set {l : List Nat} (h : AllLt l) (i n : Nat) (hn : n < 256) : AllLt (l.set i n) := by
  intro j
  have := h j
  simp only [List.getD_eq_getElem?_getD, List.getElem?_set] at *
  split
  · split <;> simp <;> omega
  · exact this

theorem wrap_i64 (n : Int) : IntKind.i64.wrap n = (n + 9223372036854775808) % 18446744073709551616 - 9223372036854775808 := by
  simp [IntKind.wrap, IntKind.bits, IntKind.signed]
  omega
def xorAt (s : List Nat) (i d : Nat) : List Nat := s.set i (s.getD i 0 ^^^ d)
def amTo (s q : List Nat) (f at_ : Nat) : Nat → List Nat
  | 0 => s
  | k + 1 => xorAt (amTo s q f at_ k) (at_ + k) (mul f (q.getD k 0))
theorem amTo_length (s q : List Nat) (f a k : Nat) : (amTo s q f a k).length = s.length := by
  induction k with
  | zero => rfl
  | succ k ih => simp [amTo, xorAt, ih]
theorem amTo_lt {s q : List Nat} {f a : Nat} (hs : AllLt s) (hf : f < 256) (k : Nat) : AllLt (amTo s q f a k) := by
  induction k with
  | zero => exact hs
  | succ k ih => exact ih.set _ _ (Nat.xor_lt_two_pow (n := 8) (ih _) (mul_lt hf))

theorem grownBy_drew {w w' : World} {row : Option Nat} (h : w.grownBy w' row) : w.grownBy w'.drew row := ⟨h.os, h.tape, h.output, h.size, h.block⟩
theorem grownBy_trans {w w' w'' : World} {row : Option Nat} (h : w.grownBy w' row) (k : w'.grownBy w'' row) : w.grownBy w'' row :=
  ⟨k.os.trans h.os, k.tape.trans h.tape, k.output.trans h.output, Nat.le_trans h.size k.size, fun j hj hne => (k.block j (Nat.lt_of_lt_of_le hj h.size) hne).trans (h.block j hj hne)⟩

set_option maxRecDepth 100000 in
set_option maxHeartbeats 800000 in
theorem addMultiple_calls (sv qv : Value) (s q : List Nat) (f a : Int) (base : Nat) (w : World) (hT : ∀ w', w.grownBy w' sv.ownBlock → Tab w') (hs : Own w base sv (ci s)) (hq : ∀ w', w.grownBy w' sv.ownBlock → Rd w' qv (ci q))
    (hf0 : 0 ≤ f) (hf : f < 256) (ha0 : 0 ≤ a) (hfit : a + q.length ≤ s.length) (hsl : s.length ≤ 1048576) (hsa : AllLt s) (hqa : AllLt q) (h0 : 0 < s.length) :
    Calls Tryz.prog 241 #[sv, qv, .int .i64 f, .int .i64 a] w fun e w' => e = .returned (.tuple #[]) ∧ Own w' base sv (ci (amTo s q f.toNat a.toNat q.length)) ∧ w.grownBy w' sv.ownBlock := by
  obtain ⟨F, rfl⟩ := Int.eq_ofNat_of_zero_le hf0
  obtain ⟨A, rfl⟩ := Int.eq_ofNat_of_zero_le ha0
  simp only [Int.toNat_natCast]
  obtain ⟨g, cap, rfl, hg1, hg2, _⟩ := Own.open hs (by rw [ci_length]; exact h0)
  rw [ci_length] at hs
  have Q := hide hq
  have T := hide hT
  have S : Hid (w.ownsRow base 3 1 (.slice (some ⟨g, 0, none⟩) s.length cap) s.length ((ci s).map (Value.int .i64))) := by
    have := hs
    unfold Own at this
    rwa [ci_length] at this
  have SA := hide hsa
  have QA := hide hqa
  obtain ⟨qa, qcap, rfl, hq1, hq2, _⟩ := hq w (World.grownBy.refl _ _)
  simp only [ci_length]
  rw [ci_length] at hq1
  clear hq hT hs hsa hqa
  go_enter Tryz.func241, Tryz.ntmps241
  go_wp2
  go_loopw [12] (fun vi wr => ∃ k : Nat, k ≤ q.length ∧ vi = .int .i64 k ∧ wr.ownsRow base 3 1 (.slice (some ⟨g, 0, none⟩) s.length cap) s.length ((ci (amTo s q F A k)).map (Value.int .i64)) ∧ w.grownBy wr (some g)) (fun vi _ => q.length - (intOf vi).toNat)
  case atStart => exact ⟨0, Nat.zero_le _, rfl, S.out, World.grownBy.refl _ _⟩
  case round =>
    obtain ⟨k, hk, rfl, hown, hgr⟩ := hrel
    by_cases hlt : k < q.length
    · obtain ⟨qa', qcap', hv, _, _, h3⟩ := Q.out wr hgr
      have hv2 : qa' = qa := by simp at hv; exact hv.1.symm
      subst hv2
      clear hv
      rcases h3 with h3 | ⟨b, off, rfl, hbs, hc⟩
      · have := congrArg List.length h3
        rw [ci_length] at this
        simp only [List.length_nil] at this; omega
      have hc1 := hc k (by rw [ci_length]; exact hlt)
      rw [ci_getD] at hc1
      clear hc
      have hc2 : wr.frozen? ⟨g, A + k, none⟩ = false := hown.frozenAt (A + k)
      have hc3 : wr.cell? ⟨g, A + k, none⟩ = some (.int .i64 ((amTo s q F A k).getD (A + k) 0 : Nat)) := by
        rw [hown.cellAt (A + k) (by omega), List.getElem?_map]
        have hl : A + k < (ci (amTo s q F A k)).length := by rw [ci_length, amTo_length]; omega
        rw [List.getElem?_eq_getElem hl]
        have := ci_getD (amTo s q F A k) (A + k)
        rw [List.getD_eq_getElem?_getD, List.getElem?_eq_getElem hl, Option.getD_some] at this
        rw [this]; rfl
      have e1 : ((A : Int) + (k : Int)).toNat = A + k := by omega
      have i1 : (0 : Int) ≤ (A : Int) + (k : Int) := by omega
      have i2 : (A : Int) + (k : Int) < (s.length : Int) := by omega
      have i3 : (k : Int) < (q.length : Int) := by omega
      have i4 : IntKind.i64.wrap ((A : Int) + (k : Int)) = (A : Int) + (k : Int) := by rw [wrap_i64]; omega
      obtain ⟨z, hz⟩ : ∃ z, z = q.getD k 0 := ⟨_, rfl⟩
      rw [← hz] at hc1
      obtain ⟨y, hy⟩ : ∃ y, y = (amTo s q F A k).getD (A + k) 0 := ⟨_, rfl⟩
      rw [← hy] at hc3
      have hz256 : z < 256 := by rw [hz]; exact QA.out k
      have hy256 : y < 256 := by rw [hy]; exact amTo_lt SA.out (by omega) k _
      have Z := hide hz
      have Y := hide hy
      have Tr := hide (T.out wr hgr)
      have G := hide hgr
      have O := hide hown
      clear hz hy hgr hown
      go_wp2
      go_region_with (go_at_call 261; refine (mulE_calls _ _ _ (by exact Tr.out) (by omega) (by omega) (by omega) (by omega)).mono ?_; rintro e w' ⟨rfl, rfl⟩)
      all_goals
        go_wp2
        go_roundw
        case rel =>
          refine ⟨k + 1, by omega, by go_num, ?_, ?_⟩
          · have := (O.out.stored (A + k) (.int .i64 (y ^^^ mul F z : Nat))).1
            rw [← List.map_set, ci_set, Y.out, Z.out] at this
            rw [i64_xor _ _ (by omega) (by have := mul_lt (a := F) (b := z) (by omega); omega), Y.out, Z.out]
            exact this.drew
          · exact grownBy_drew (grownBy_trans G.out (O.out.stored (A + k) _).2)
        case measure => simp [intOf]; omega
    · obtain rfl : k = q.length := by omega
      go_wp2
      go_end0
      refine ⟨rfl, ?_, hgr⟩
      show World.ownsRow _ _ _ _ _ (ci _).length _
      rw [ci_length, amTo_length]
      exact hown
def nat (xs : List Int) : List Nat := xs.map Int.toNat
theorem nat_length (xs : List Int) : (nat xs).length = xs.length := by simp [nat]
theorem allLt_zeros (n : Nat) : AllLt (List.replicate n 0) := by
  intro i
  rw [List.getD_eq_getElem?_getD, List.getElem?_replicate]
  split <;> simp

end Gf
end Go.Proofs.YtbgadbokejaomaaGreatDoor

namespace Go.Proofs.YtbgadbokejaomaaGreatDoor
open Go.RowKit

/-- 'append(out, row)', out rows of the call's own, row a new list of its own. -/
theorem wpList_append_row {w W1 : World} {ops : Array Oper} {rest : List Oper} {o : Oper} {a : Act} {Q : Exit → Act → World → Prop} (hgd : o.guard = none) (s x : Operand)
    (ho : o.op = .call { callee := .builtin .append, args := #[s, x], argTypes := #[115, 115] })
    (lo hi : Nat) (v : Value) (vs : List Value) (m : List (List Int)) (hs : a.eval s = v) (h : MatV w lo hi v vs m) (hb : Below w.heap.size w W1) (u : Value) (r : List Int) (hu : Own W1 w.heap.size u r) (hh : hi ≤ w.heap.size) (hlo : lo ≤ w.heap.size)
    (g : Nat) (hx : a.eval x = .slice (some ⟨g, 0, none⟩) 1 1) (hcell : W1.cell? ⟨g, 0, none⟩ = some u) (hn : m.length ≤ 1048576)
    (K : ∀ v' w2, MatV w2 lo w2.heap.size v' (vs ++ [u]) (m ++ [r]) → Below lo w w2 → wpList Tryz.prog ops Q rest (a.put o.dst v') w2) : wpList Tryz.prog ops Q (o :: rest) a W1 := by
  obtain ⟨i0, hi0, hz0, hz1, hz2⟩ := info_parts infoRow
  have hsz := hb.size
  refine wpList_append_own (w := W1) hgd s x _ ho lo _ i0 (.slice none 0 0) 1 24 Tryz.underlying115 hi0 hz0 hz1 hz2 rfl (by decide) v m.length vs hs (ownsRow_below h.head hb) ⟨g, 0, none⟩ 1 1 [u] hx (by simp) ?_ ?_ (by unfold maxLen; omega) (by omega) (by omega) ?_
  · intro j y hj
    cases j with
    | zero =>
      simp at hj
      subst hj
      have hadd : (⟨g, 0, none⟩ : Addr).add 0 = ⟨g, 0, none⟩ := by unfold Addr.add; split <;> simp_all
      rw [hadd]; exact hcell
    | succ j => simp at hj
  · intro y hy
    simp at hy
    subst hy
    obtain ⟨xa, xn, xc, rfl⟩ := hu.shape
    rfl
  · intro v' w2 ho2 hg2 _
    exact K v' w2 (h.push hb hu hh hlo ho2 hg2) ((hb.mono hlo).grown hg2 (by omega) (fun k hk => (World.ownsRow.lt h.head k hk).1))

theorem map_range_set {α : Type} (f : Nat → α) (n k : Nat) (x : α) : ((List.range n).map f).set k x = (List.range n).map (fun i => if i = k then x else f i) := by
  apply List.ext_getElem?
  intro i
  rw [List.getElem?_set]
  by_cases hi : i < n
  · by_cases e : k = i
    · subst e; simp [hi]
    · rw [if_neg e, List.getElem?_map, List.getElem?_map, List.getElem?_range hi]
      simp only [Option.map_some]
      rw [if_neg (fun h => e h.symm)]
  · simp [hi]; omega
/-- Row i of the identity of n. -/
def unitRow (n i : Nat) : List Int := (List.replicate n (0 : Int)).set i 1
def identM (n : Nat) : List (List Int) := (List.range n).map (unitRow n)
def identTo (n k : Nat) : List (List Int) := (List.range n).map fun i => if i < k then unitRow n i else List.replicate n 0
theorem identM_length (n : Nat) : (identM n).length = n := by simp [identM]
theorem identM_get (n i : Nat) (h : i < n) : (identM n).getD i [] = unitRow n i := by simp [identM, h]
theorem unitRow_length (n i : Nat) : (unitRow n i).length = n := by simp [unitRow]
theorem identTo_length (n k : Nat) : (identTo n k).length = n := by simp [identTo]
theorem identTo_get (n k : Nat) (h : k < n) : (identTo n k).getD k [] = List.replicate n 0 := by simp [identTo, h]
theorem identTo_step (n k : Nat) : (identTo n k).set k (unitRow n k) = identTo n (k + 1) := by
  unfold identTo
  rw [map_range_set]
  apply List.map_congr_left
  intro i _
  by_cases e : i = k
  · subst e; simp
  · rw [if_neg e]
    by_cases h : i < k
    · rw [if_pos h, if_pos (by omega)]
    · rw [if_neg h, if_neg (by omega)]
theorem identTo_zero (n : Nat) : identTo n 0 = List.replicate n (List.replicate n 0) := by
  unfold identTo
  apply List.ext_getElem?
  intro i
  by_cases hi : i < n
  · simp [hi]
  · simp [hi]
theorem identTo_end (n : Nat) : identTo n n = identM n := by
  unfold identTo identM
  apply List.map_congr_left
  intro i hi
  rw [if_pos (List.mem_range.1 hi)]

set_option maxRecDepth 100000 in
set_option maxHeartbeats 800000 in
theorem newRows_calls (n l : Nat) (w : World) (hn : n ≤ 1048576) (hl : l ≤ 1048576) :
    Calls Tryz.prog 240 #[.int .i64 n, .int .i64 l] w fun e w' => ∃ v', e = .returned v' ∧ Mat w' w.heap.size w'.heap.size v' (List.replicate n (List.replicate l 0)) ∧ Below w.heap.size w w' := by
  obtain ⟨MM, hM⟩ : ∃ M : List (List Int), M = List.replicate n (List.replicate l 0) := ⟨_, rfl⟩
  rw [← hM]
  have hMl : MM.length = n := by rw [hM]; simp
  have hMg : ∀ k, k < n → MM.getD k [] = List.replicate l 0 := fun k hk => by rw [hM]; simp [hk]
  have HL := hide hMl
  have HG := hide hMg
  clear hM hMl hMg
  go_enter Tryz.func240, Tryz.ntmps240
  go_wp2_with (at_make; refine wpList_make_rows rfl _ _ rfl _ _ n rfl rfl (by omega) (by omega) hn ?_)
  intro w0 hm0 hg0
  have M0 := hide hm0
  have G0 := hide hg0
  clear hm0 hg0
  go_wp2
  go_loopw [11] (fun vi wr => ∃ (k : Nat) (vs : List Value), k ≤ n ∧ vi = .int .i64 k ∧ MatV wr w.heap.size wr.heap.size (.slice (some ⟨w.heap.size, 0, none⟩) n n) vs (toTo MM k) ∧ Below w.heap.size w wr) (fun vi _ => n - (intOf vi).toNat)
  case atStart =>
    refine ⟨0, List.replicate n nilRow, Nat.zero_le _, rfl, ?_, (Below.refl _ _).grown G0.out (Nat.le_refl _) (fun k h => by cases h)⟩
    rw [toTo_zero, HL.out]
    exact M0.out
  case round =>
    obtain ⟨k, vs, hk, rfl, hm, hb⟩ := hrel
    have M := hide hm
    have B := hide hb
    clear hm hb
    by_cases hlt : k < n
    · have hlt' : (k : Int) < (n : Int) := by omega
      go_wp2_with (at_make; refine wpList_make_ints rfl _ _ rfl wr.heap.size _ _ l rfl rfl (by omega) (by omega) (by omega) (Nat.le_refl _) ?_)
      intro w1 hx hg1
      have hb1 : Below wr.heap.size wr w1 := (Below.refl _ _).grown hg1 (Nat.le_refl _) (fun k h => by cases h)
      have hkl : k < (toTo MM k).length := by rw [toTo_length _ k (by rw [HL.out]; exact hk), HL.out]; exact hlt
      have hM1 := M.out.below hb1
      have hc2 : w1.frozen? ⟨w.heap.size, k, none⟩ = false := World.ownsRow.frozenAt (by have := hM1.head; rwa [← hM1.lenEq] at this) k
      have hc3 := hM1.cell k hkl
      have L := hide (M.out.lay k hkl hb1 _ _ hx M.out.sizeLo (Nat.le_refl _))
      have B1 := hide hb1
      clear hM1 hx hb1 hg1
      go_wp2
      go_roundw
      case rel =>
        refine ⟨k + 1, vs.set k (.slice (some ⟨wr.heap.size, 0, none⟩) l l), by omega, by go_num, ?_, ?_⟩
        · have := L.out.1
          rw [← HG.out k hlt, toTo_step _ k (by rw [HL.out]; exact hlt)] at this
          exact this
        · exact (B.out.trans (B1.out.mono B.out.size)).setCell (Nat.le_refl _) _
      case measure => simp [intOf]; omega
    · obtain rfl : k = n := by omega
      go_wp2
      go_ret
      have hm := M.out
      have e := toTo_end MM
      rw [HL.out] at e
      rw [e] at hm
      exact ⟨_, rfl, ⟨_, hm⟩, B.out⟩

theorem Own.open1 {w : World} {base : Nat} {v : Value} {xs : List Int} (h : Own w base v xs) (hn : 0 < xs.length) :
    ∃ g cap, v = .slice (some ⟨g, 0, none⟩) xs.length cap ∧ base ≤ g ∧ g < w.heap.size ∧ xs.length ≤ cap ∧ cap ≤ maxLen := by
  rcases h.2 with ⟨_, h0⟩ | ⟨g, cap, cur, rfl, hb, hg, hc, hm, _⟩
  · omega
  · exact ⟨g, cap, rfl, hb, (Array.getElem?_eq_some_iff.1 hg).1, hc, hm⟩
/-- One cell of an owned list is written. -/
theorem Own.put {w : World} {base g n cap : Nat} {xs : List Int} (h : Own w base (.slice (some ⟨g, 0, none⟩) n cap) xs) (i : Nat) (x : Int) :
    Own (w.setCell ⟨g, i, none⟩ (.int .i64 x)) base (.slice (some ⟨g, 0, none⟩) n cap) (xs.set i x) ∧ w.grownBy (w.setCell ⟨g, i, none⟩ (.int .i64 x)) (some g) := by
  have hn : n = xs.length := by
    rcases h.2 with ⟨h', _⟩ | ⟨g', cap', cur, h', _⟩
    · simp at h'
    · simp at h'; exact h'.2.1
  subst hn
  have := World.ownsRow.stored h i (.int .i64 x)
  refine ⟨?_, this.2⟩
  have h1 := this.1
  rw [← List.map_set] at h1
  show World.ownsRow _ _ _ _ _ (xs.set i x).length _
  rw [List.length_set]
  exact h1
theorem Own.at {w : World} {base g n cap : Nat} {xs : List Int} (h : Own w base (.slice (some ⟨g, 0, none⟩) n cap) xs) (i : Nat) (hi : i < xs.length) :
    w.frozen? ⟨g, i, none⟩ = false ∧ w.cell? ⟨g, i, none⟩ = some (.int .i64 (xs.getD i 0)) := by
  have hn : n = xs.length := by
    rcases h.2 with ⟨h', _⟩ | ⟨g', cap', cur, h', _⟩
    · simp at h'
    · simp at h'; exact h'.2.1
  subst hn
  refine ⟨World.ownsRow.frozenAt h i, ?_⟩
  rw [World.ownsRow.cellAt h i (by omega)]
  simp [hi]

set_option maxRecDepth 100000 in
set_option maxHeartbeats 800000 in
theorem identity_calls (n : Nat) (w : World) (h0 : 1 ≤ n) (h8 : n ≤ 8) :
    Calls Tryz.prog 225 #[.int .i64 n] w fun e w' => ∃ v', e = .returned v' ∧ Mat w' w.heap.size w'.heap.size v' (identM n) ∧ Below w.heap.size w w' := by
  go_enter Tryz.func225, Tryz.ntmps225
  go_wp2_with fail
  refine (newRows_calls n n _ (by omega) (by omega)).mono ?_
  rintro e w1 ⟨v1, rfl, ⟨vs, hm⟩, hb⟩
  rw [← identTo_zero] at hm
  obtain ⟨g, cap, rfl, hg1, hg2, hg3, hg4⟩ := hm.open (by rw [identTo_length]; omega)
  rw [identTo_length] at *
  have M0 := hide hm
  have B0 := hide hb
  clear hm hb
  go_wp2
  go_loopw [10] (fun vi wr => ∃ (k : Nat), k ≤ n ∧ vi = .int .i64 k ∧ MatV wr w.heap.size w1.heap.size (.slice (some ⟨g, 0, none⟩) n cap) vs (identTo n k) ∧ Chg w.heap.size w1.heap.size w1 wr) (fun vi _ => n - (intOf vi).toNat)
  case atStart => exact ⟨0, Nat.zero_le _, rfl, M0.out, Chg.refl _ _ _⟩
  case round =>
    obtain ⟨k, hk, rfl, hM, hC⟩ := hrel
    by_cases hlt : k < n
    · have hlt' : (k : Int) < (n : Int) := by omega
      have hkl : k < (identTo n k).length := by rw [identTo_length]; exact hlt
      have hc1 := hM.cell k hkl
      have hro := hM.row k hkl
      rw [identTo_get n k hlt] at hro
      obtain ⟨u, hu⟩ : ∃ u, u = vs.getD k nilRow := ⟨_, rfl⟩
      rw [← hu] at hc1 hro
      obtain ⟨g', cap', rfl, hq1, hq2, hq3, hq4⟩ := hro.open1 (by simp; omega)
      simp only [List.length_replicate] at hc1 hro hq3 hu
      obtain ⟨hf, hc⟩ := hro.at k (by simp; exact hlt)
      have W := hide (hro.put k 1)
      have U := hide hu
      have M := hide hM
      have C := hide hC
      clear hu hM hC hro
      go_wp2
      go_roundw
      case rel =>
        have hw := W.out
        have hg := hw.2
        have ho := hw.1
        have hU := U.out
        rw [show (some g' : Option Nat) = (vs.getD k nilRow).ownBlock from by rw [← hU]; rfl] at hg
        rw [hU] at ho
        refine ⟨k + 1, by omega, by go_num, ?_, C.out.trans (M.out.writeChg k hkl hg)⟩
        have := M.out.write k hkl (unitRow n k) ho hg
        rwa [identTo_step] at this
      case measure => simp [intOf]; omega
    · obtain rfl : k = n := by omega
      rw [identTo_end] at hM
      have M := hide hM
      have C := hide hC
      clear hM hC
      go_wp2
      go_ret
      have hs := C.out.size
      exact ⟨_, rfl, ⟨_, M.out.wider (Nat.le_refl _) hs⟩, Below.thenChg B0.out C.out (Nat.le_refl _)⟩

set_option maxRecDepth 100000 in
set_option maxHeartbeats 800000 in
theorem l2Identity_calls (n : Nat) (w : World) (h0 : 1 ≤ n) (h8 : n ≤ 8) :
    Calls Tryz.prog 201 #[.int .i64 n] w fun e w' => ∃ v', e = .returned v' ∧ Mat w' w.heap.size w'.heap.size v' (identM n) ∧ Below w.heap.size w w' := by
  obtain ⟨I, hI⟩ : ∃ I, I = identM n := ⟨_, rfl⟩
  rw [← hI]
  have HI := hide hI
  clear hI
  go_enter Tryz.func201, Tryz.ntmps201
  go_wp2
  go_loopw [3, 4] (fun vo vi wr => ∃ (k : Nat) (vs : List Value), k ≤ n ∧ vi = .int .i64 k ∧ MatV wr w.heap.size wr.heap.size vo vs (I.take k) ∧ Below w.heap.size w wr) (fun _ vi _ => n - (intOf vi).toNat)
  case atStart =>
    obtain ⟨vs, hv⟩ := Mat.nil w w.heap.size w.heap.size
    exact ⟨0, vs, Nat.zero_le _, rfl, hv, Below.refl _ _⟩
  case round =>
    obtain ⟨k, vs, hk, rfl, hM, hB⟩ := hrel
    have M := hide hM
    have B := hide hB
    clear hM hB
    by_cases hlt : k < n
    · have hlt' : (k : Int) < (n : Int) := by omega
      go_wp2_with (at_make; refine wpList_make_ints rfl _ _ rfl wr.heap.size _ _ n rfl rfl (by omega) (by omega) (by omega) (Nat.le_refl _) ?_)
      intro w1 hx hg1
      have hb1 : Below wr.heap.size wr w1 := (Below.refl _ _).grown hg1 (Nat.le_refl _) (fun k h => by cases h)
      obtain ⟨hf, hc⟩ := hx.at k (by simp; exact hlt)
      have hp := hx.put k 1
      have hb2 := hb1.setCell (p := ⟨wr.heap.size, k, none⟩) (Nat.le_refl _) (.int .i64 1)
      have O2 := hide hp.1
      have B2 := hide hb2
      clear hx hg1 hb1 hp hb2
      go_wp2_with (at_builtin; go_loud (refine wpList_append_row rfl _ _ rfl w.heap.size wr.heap.size _ vs (I.take k) rfl M.out (B2.out.alloc B2.out.size _) _ (unitRow n k) (O2.out.below ((Below.refl _ _).alloc (Nat.le_refl _) _)) (Nat.le_refl _) B.out.size _ rfl (World.cell?_alloc_at _ _ _ _ (by simp)) (by simp; omega) ?_))
      intro v2 w2 hM2 hB2
      have M2 := hide hM2
      have B3 := hide hB2
      clear hM2 hB2
      go_wp2
      go_roundw
      case rel =>
        refine ⟨k + 1, vs ++ [.slice (some ⟨wr.heap.size, 0, none⟩) n n], by omega, by go_num, ?_, B.out.trans B3.out⟩
        · have := M2.out
          have e : I.take k ++ [unitRow n k] = I.take (k + 1) := by
            have hl : k < I.length := by rw [HI.out, identM_length]; exact hlt
            rw [List.take_succ_eq_append_getElem hl]
            have := identM_get n k hlt
            rw [← HI.out, List.getD_eq_getElem?_getD, List.getElem?_eq_getElem hl, Option.getD_some] at this
            rw [this]
          rw [e] at this
          exact this
      case measure => simp [intOf]; omega
    · obtain rfl : k = n := by omega
      go_wp2
      go_ret
      have hm := M.out
      rw [List.take_of_length_le (by rw [HI.out, identM_length]; exact Nat.le_refl _)] at hm
      exact ⟨_, rfl, ⟨_, hm⟩, B.out⟩
end Go.Proofs.YtbgadbokejaomaaGreatDoor

namespace Go.Proofs.YtbgadbokejaomaaGreatDoor
open Go.RowKit
namespace Gf

theorem ci_nat {xs : List Int} (h : xs.all elOk = true) : ci (nat xs) = xs := by
  unfold ci nat
  rw [List.map_map]
  conv => rhs; rw [← List.map_id xs]
  apply List.map_congr_left
  intro x hx
  have := elOk_iff.1 (List.all_eq_true.1 h x hx)
  simp; omega
theorem nat_lt {xs : List Int} (h : xs.all elOk = true) : AllLt (nat xs) := by
  intro i
  unfold nat
  rw [List.getD_eq_getElem?_getD, List.getElem?_map]
  by_cases hi : i < xs.length
  · rw [List.getElem?_eq_getElem hi]
    have := elOk_iff.1 (List.all_eq_true.1 h _ (List.getElem_mem hi))
    simp; omega
  · rw [List.getElem?_eq_none (by omega)]; simp
theorem ci_zeros (n : Nat) : ci (List.replicate n 0) = List.replicate n 0 := by simp [ci]

theorem tab_grown {w w' : World} {row : Option Nat} (hT : Tab w) (hg : w.grownBy w' row) (hr : ∀ k, row = some k → 1 < k) : Tab w' := by
  intro k hk
  rw [← hT k hk]
  refine World.cell?_of_block (w := w) (hg.block 1 (tab_pos hT) (fun e => ?_))
  have := hr 1 e.symm
  omega
def sc (r : List Nat) (f : Nat) : List Nat := r.map (mul f)
theorem sc_length (r : List Nat) (f : Nat) : (sc r f).length = r.length := by simp [sc]
theorem sc_lt {r : List Nat} {f : Nat} (hf : f < 256) : AllLt (sc r f) := by
  intro i
  unfold sc
  rw [List.getD_eq_getElem?_getD, List.getElem?_map]
  cases r[i]? with
  | none => simp
  | some x => simp; exact mul_lt hf

set_option maxRecDepth 100000 in
set_option maxHeartbeats 800000 in
theorem l2Add_calls (sv qv : Value) (s q : List Nat) (F base : Nat) (w : World) (hs : Own w base sv (ci s)) (hq : ∀ w', w.grownBy w' sv.ownBlock → Rd w' qv (ci q))
    (hf : F < 256) (hfit : q.length ≤ s.length) (hsl : s.length ≤ 1048576) (hsa : AllLt s) (hqa : AllLt q) (h0 : 0 < s.length) :
    Calls Tryz.prog 200 #[sv, qv, .int .i64 F] w fun e w' => e = .returned (.tuple #[]) ∧ Own w' base sv (ci (amTo s q F 0 q.length)) ∧ w.grownBy w' sv.ownBlock := by
  obtain ⟨g, cap, rfl, hg1, hg2, hg3, hg4⟩ := Own.open1 hs (by rw [ci_length]; omega)
  rw [ci_length] at *
  have Q := hide hq
  have S := hide hs
  have SA := hide hsa
  have QA := hide hqa
  obtain ⟨qa, qcap, rfl, hq1, hq2, _⟩ := hq w (World.grownBy.refl _ _)
  simp only [ci_length]
  rw [ci_length] at hq1
  clear hq hs hsa hqa
  go_enter Tryz.func200, Tryz.ntmps200
  go_wp2
  go_loopw [10] (fun vi wr => ∃ k : Nat, k ≤ q.length ∧ vi = .int .i64 k ∧ Own wr base (.slice (some ⟨g, 0, none⟩) s.length cap) (ci (amTo s q F 0 k)) ∧ w.grownBy wr (some g)) (fun vi _ => q.length - (intOf vi).toNat)
  case atStart => exact ⟨0, Nat.zero_le _, rfl, S.out, World.grownBy.refl _ _⟩
  case round =>
    obtain ⟨k, hk, rfl, ho, hgr⟩ := hrel
    by_cases hlt : k < q.length
    · obtain ⟨qa', qcap', hv, _, _, h3⟩ := Q.out wr hgr
      have hv2 : qa' = qa := by simp at hv; exact hv.1.symm
      subst hv2
      clear hv
      rcases h3 with h3 | ⟨b, off, rfl, hbs, hc⟩
      · have := congrArg List.length h3
        rw [ci_length] at this
        simp only [List.length_nil] at this; omega
      have hc1 := hc k (by rw [ci_length]; exact hlt)
      rw [ci_getD] at hc1
      clear hc
      obtain ⟨hc2, hc3⟩ := Own.at ho k (by rw [ci_length, amTo_length]; omega)
      rw [ci_getD] at hc3
      have i2 : (k : Int) < (s.length : Int) := by omega
      have i3 : (k : Int) < (q.length : Int) := by omega
      obtain ⟨z, hz⟩ : ∃ z, z = q.getD k 0 := ⟨_, rfl⟩
      rw [← hz] at hc1
      obtain ⟨y, hy⟩ : ∃ y, y = (amTo s q F 0 k).getD k 0 := ⟨_, rfl⟩
      rw [← hy] at hc3
      have hz256 : z < 256 := by rw [hz]; exact QA.out k
      have hy256 : y < 256 := by rw [hy]; exact amTo_lt SA.out (by omega) k _
      have Z := hide hz
      have Y := hide hy
      have G := hide hgr
      have O := hide ho
      clear hz hy hgr ho
      go_wp2
      go_region_with (go_at_call 233; refine (l1Mul_calls _ _ _ (by omega) (by omega) (by omega) (by omega)).mono ?_; rintro e w' ⟨rfl, rfl⟩)
      all_goals
        go_wp2
        go_roundw
        case rel =>
          refine ⟨k + 1, by omega, by go_num, ?_, ?_⟩
          · have := (O.out.put k ((y ^^^ mul F z : Nat) : Int)).1
            rw [ci_set] at this
            rw [i64_xor _ _ (by omega) (by have := mul_lt (a := z) (b := F) (by omega); omega), mul_comm z F hz256 hf]
            have e : (amTo s q F 0 k).set k (y ^^^ mul F z) = amTo s q F 0 (k + 1) := by rw [Y.out, Z.out]; simp [amTo, xorAt]
            rw [← e]
            exact this.drew
          · exact grownBy_drew (grownBy_trans G.out (O.out.put k _).2)
        case measure => simp [intOf]; omega
    · obtain rfl : k = q.length := by omega
      have G := hide hgr
      have O := hide ho
      clear hgr ho
      go_wp2
      go_end0
      exact ⟨rfl, O.out, G.out⟩
end Gf
end Go.Proofs.YtbgadbokejaomaaGreatDoor

namespace Go.Proofs.YtbgadbokejaomaaGreatDoor
open Go.RowKit
open Gf (ci nat mul inv amTo AllLt)

theorem RdM.rowAt {w : World} {a : Option Addr} {n cap : Nat} {m : List (List Int)} (h : RdM w (.slice a n cap) m) (i : Nat) (hi : i < m.length) :
    ∃ b off u, a = some ⟨b, off, none⟩ ∧ b < w.heap.size ∧ w.cell? ⟨b, off + i, none⟩ = some u ∧ Rd w u (m.getD i []) := by
  obtain ⟨a', cap', hv, _, _, h3⟩ := h
  simp only [Value.slice.injEq] at hv
  obtain ⟨rfl, rfl, rfl⟩ := hv
  rcases h3 with h3 | ⟨b, off, rfl, hlt, hc⟩
  · subst h3; simp at hi
  · obtain ⟨u, hu, hr⟩ := hc i hi
    exact ⟨b, off, u, rfl, hlt, hu, hr⟩
/-- The first k rows of m; d in the places of the others. -/
def gTo (m : List (List Int)) (d : List Int) (k : Nat) : List (List Int) := m.take k ++ List.replicate (m.length - k) d
theorem gTo_length (m : List (List Int)) (d : List Int) (k : Nat) (h : k ≤ m.length) : (gTo m d k).length = m.length := by simp [gTo]; omega
theorem gTo_get (m : List (List Int)) (d : List Int) (k : Nat) (h : k < m.length) : (gTo m d k).getD k [] = d := by
  unfold gTo
  rw [List.getD_eq_getElem?_getD, List.getElem?_append_right (by simp; omega)]
  rw [List.length_take, Nat.min_eq_left (Nat.le_of_lt h), Nat.sub_self, List.getElem?_replicate, if_pos (by omega)]
  rfl
theorem gTo_step (m : List (List Int)) (d : List Int) (k : Nat) (h : k < m.length) : (gTo m d k).set k (m.getD k []) = gTo m d (k + 1) := by
  have e1 : (m.take k).length = k := by simp; omega
  unfold gTo
  rw [List.set_append_right _ _ (by omega), e1, Nat.sub_self]
  obtain ⟨j, hm⟩ : ∃ j, m.length - k = j + 1 := ⟨m.length - k - 1, by omega⟩
  have hm2 : m.length - (k + 1) = j := by omega
  rw [hm, hm2, List.replicate_succ, List.set_cons_zero, List.take_succ_eq_append_getElem h, List.append_assoc]
  simp only [List.getD_eq_getElem?_getD, List.getElem?_eq_getElem h, Option.getD_some, List.singleton_append]
theorem gTo_end (m : List (List Int)) (d : List Int) : gTo m d m.length = m := by simp [gTo]
theorem gTo_zero (m : List (List Int)) (d : List Int) : gTo m d 0 = List.replicate m.length d := by simp [gTo]
theorem set_same {α : Type} (l : List α) (k : Nat) (d : α) (h : k < l.length) : l.set k (l.getD k d) = l := by
  rw [List.getD_eq_getElem?_getD, List.getElem?_eq_getElem h, Option.getD_some]
  exact List.set_getElem_self h

def mulRow (b : List (List Nat)) (l : Nat) (r : List Nat) : Nat → List Nat
  | 0 => List.replicate l 0
  | k + 1 => amTo (mulRow b l r k) (b.getD k []) (r.getD k 0) 0 (b.getD k []).length
def mulM (a b : List (List Int)) : List (List Int) := a.map fun r => ci (mulRow (b.map nat) (b.getD 0 []).length (nat r) r.length)
theorem mulRow_length (b : List (List Nat)) (l : Nat) (r : List Nat) (k : Nat) : (mulRow b l r k).length = l := by
  induction k with
  | zero => simp [mulRow]
  | succ k ih => rw [mulRow, Gf.amTo_length, ih]
theorem mulRow_lt {b : List (List Nat)} {l : Nat} {r : List Nat} (hr : AllLt r) (k : Nat) : AllLt (mulRow b l r k) := by
  induction k with
  | zero => exact Gf.allLt_zeros l
  | succ k ih => exact Gf.amTo_lt ih (hr k) _
theorem mulM_length (a b : List (List Int)) : (mulM a b).length = a.length := by simp [mulM]
theorem mulM_get (a b : List (List Int)) (k : Nat) (h : k < a.length) : (mulM a b).getD k [] = ci (mulRow (b.map nat) (b.getD 0 []).length (nat (a.getD k [])) (a.getD k []).length) := by
  simp [mulM, List.getD_eq_getElem?_getD, h]
theorem natM_get (b : List (List Int)) (k : Nat) : (b.map nat).getD k [] = nat (b.getD k []) := by
  simp only [List.getD_eq_getElem?_getD, List.getElem?_map]
  cases b[k]? with
  | none => rfl
  | some x => rfl

end Go.Proofs.YtbgadbokejaomaaGreatDoor
