/-
  The division of two polynomials: the program's DivPoly and its model's at every argument that can be read, call by call: both answer the same two lists, each of new memory of its own, and the same word. The program's table of rests must hold its seven numbers where the program's own function is called. The model's division of two polynomials at every argument that can be read, call by call; with the program's, at every argument. The program's table of rests must hold its seven numbers where the program's own function is called. The division of two polynomials at every argument that can be read: the program's and its model's, call by call. The program's table of rests must hold its seven numbers where the program's own function is called. The word of a message: the program's EncodeWord and its model's, call by call. The program's table of rests must hold its seven numbers where the program's own functions are called. The word of a message: the model's EncodeWord, call by call. No condition.
-/
import Derived.Test.YtogopakmebiomaaDoorLocatorsB3
import Derived.Test.YtogopakmebiomaaDoorLocatorsB8
import Derived.Test.YtogopakmebiomaaDoorLocatorsB6
namespace Go.Proofs.YtogopakmebiomaaDoor
open Go.RowKit

/-- Two new slices of no block in common. -/
def Two (w w' : World) (v1 v2 : Value) (r1 r2 : List Int) : Prop :=
  Own w' w.heap.size v1 r1 ∧ Own w' w.heap.size v2 r2 ∧ (v1.ownBlock = none ∨ v1.ownBlock ≠ v2.ownBlock) ∧ Below w.heap.size w w'
theorem Two.nil1 {w w' : World} {v2 : Value} {r2 : List Int} (h : Own w' w.heap.size v2 r2) (hb : Below w.heap.size w w') : Two w w' (.slice none 0 0) v2 [] r2 := ⟨Gf.own_nil _ _, h, .inl rfl, hb⟩
theorem Sys.add2 {W w w' : World} {L : List (Value × List Int)} {v1 v2 : Value} {r1 r2 : List Int} (h : Sys W w L) (h2 : Two w w' v1 v2 r1 r2) : Sys W w' ((v2, r2) :: (v1, r1) :: L) := by
  obtain ⟨o1, o2, hd, hb⟩ := h2
  have s1 := h.add hb o1
  have s2 := h.add hb o2
  have hd' : v2.ownBlock = none ∨ v2.ownBlock ≠ v1.ownBlock := by
    rcases hd with hd | hd
    · cases e : v2.ownBlock with
      | none => exact .inl rfl
      | some k => right; rw [hd]; simp
    · exact .inr (fun e => hd e.symm)
  refine ⟨s1.below, ?_, ?_⟩
  · intro i u ys hi
    cases i with
    | zero => exact s2.own 0 u ys (by simpa using hi)
    | succ i => exact s1.own i u ys (by simpa using hi)
  · intro i j a as1 b bs hij hi hj
    cases i with
    | zero =>
      simp at hi
      obtain ⟨rfl, rfl⟩ := hi
      cases j with
      | zero => exact absurd rfl hij
      | succ j =>
        cases j with
        | zero => simp at hj; obtain ⟨rfl, rfl⟩ := hj; exact hd'
        | succ j => exact s2.apart 0 (j + 1) v2 r2 b bs (by omega) (by simp) (by simpa using hj)
    | succ i =>
      cases j with
      | zero =>
        simp at hj
        obtain ⟨rfl, rfl⟩ := hj
        cases i with
        | zero => simp at hi; obtain ⟨rfl, rfl⟩ := hi; exact hd
        | succ i => exact s2.apart (i + 1) 0 a as1 v2 r2 (by omega) (by simpa using hi) (by simp)
      | succ j => exact s1.apart i j a as1 b bs (fun e => hij (by rw [e])) (by simpa using hi) (by simpa using hj)

namespace Gf
set_option maxRecDepth 100000 in
set_option maxHeartbeats 1600000 in
theorem divPoly_no (pv qv : Value) (xs ys : List Int) (w : World) (hp : Rd w pv xs) (hq : Rd w qv ys) (h : ¬ (goodP xs = true ∧ goodP ys = true ∧ ys.length ≠ 0)) :
    Calls Tryd.prog 74 #[pv, qv] w fun e w' => e = .returned (.tuple #[.slice none 0 0, .slice none 0 0, .bool false]) ∧ w = w' := by
  have P := hide hp
  have Q := hide hq
  clear hp hq
  cases hgx : goodP xs with
  | false =>
    have G := hide hgx
    clear hgx h
    go_enter Tryd.func74, Tryd.ntmps74
    go_wp2_with (go_at_call 124; refine (isPoly_calls pv xs _ P.out).mono ?_; rw [G.out]; rintro e w' ⟨rfl, rfl⟩)
    go_ret3
    exact ⟨rfl, rfl⟩
  | true =>
    have G := hide hgx
    cases hgy : goodP ys with
    | false =>
      have G2 := hide hgy
      clear hgx hgy h
      go_enter Tryd.func74, Tryd.ntmps74
      go_wp2_with fail
      refine (isPoly_calls pv xs _ P.out).mono ?_
      rw [G.out]
      rintro e w' ⟨rfl, rfl⟩
      go_wp2_with fail
      refine (isPoly_calls qv ys _ Q.out).mono ?_
      rw [G2.out]
      rintro e w' ⟨rfl, rfl⟩
      go_wp2
      go_ret3
      exact ⟨rfl, rfl⟩
    | true =>
      have G2 := hide hgy
      have h0 : ys.length = 0 := by
        by_cases e : ys.length = 0
        · exact e
        · exact absurd ⟨hgx, hgy, e⟩ h
      obtain ⟨qa, qcap, rfl, _, _, _⟩ := Q.out
      have t1 : ((ys.length : Int) == 0) = true := by simp [List.eq_nil_of_length_eq_zero h0]
      clear hgx hgy h h0
      go_enter Tryd.func74, Tryd.ntmps74
      go_wp2_with fail
      refine (isPoly_calls pv xs _ P.out).mono ?_
      rw [G.out]
      rintro e w' ⟨rfl, rfl⟩
      go_wp2_with fail
      refine (isPoly_calls _ ys _ Q.out).mono ?_
      rw [G2.out]
      rintro e w' ⟨rfl, rfl⟩
      go_wp2
      go_ret3
      exact ⟨rfl, rfl⟩

set_option maxRecDepth 100000 in
set_option maxHeartbeats 1600000 in
theorem divPoly_short (pv qv : Value) (xs ys : List Int) (w : World) (hp : Rd w pv xs) (hq : Rd w qv ys) (hx : goodP xs = true) (hy : goodP ys = true) (h0 : ys.length ≠ 0) (h : xs.length < ys.length) :
    Calls Tryd.prog 74 #[pv, qv] w fun e w' => ∃ v2, e = .returned (.tuple #[.slice none 0 0, v2, .bool true]) ∧ Own w' w.heap.size v2 (cutL xs) ∧ Below w.heap.size w w' := by
  have P := hide hp
  have Q := hide hq
  have G := hide hx
  have G2 := hide hy
  have lx := goodP_len hx
  clear hp hq hx hy
  obtain ⟨pa, pcap, rfl, _, _, _⟩ := P.out
  obtain ⟨qa, qcap, rfl, _, _, _⟩ := Q.out
  have t1 : ((ys.length : Int) == 0) = false := by simp; intro e; simp [e] at h0
  have t2 : (xs.length : Int) < (ys.length : Int) := by omega
  go_enter Tryd.func74, Tryd.ntmps74
  go_wp2_with fail
  refine (isPoly_calls _ xs _ P.out).mono ?_
  rw [G.out]
  rintro e w' ⟨rfl, rfl⟩
  go_wp2_with fail
  refine (isPoly_calls _ ys _ Q.out).mono ?_
  rw [G2.out]
  rintro e w' ⟨rfl, rfl⟩
  go_wp2_with fail
  refine (without_calls _ xs _ P.out (by omega)).mono ?_
  rintro e w1 ⟨v2, rfl, ho, hb⟩
  have O := hide (And.intro ho hb)
  clear ho hb
  go_wp2
  go_ret3
  exact ⟨_, rfl, O.out.1, O.out.2⟩

set_option maxRecDepth 100000 in
set_option maxHeartbeats 3200000 in
theorem divPoly_yes (pv qv : Value) (xs ys : List Int) (w : World) (hT : Tab w) (hp : Rd w pv xs) (hq : Rd w qv ys) (hx : goodP xs = true) (hy : goodP ys = true) (h0 : ys.length ≠ 0) (h : ¬ xs.length < ys.length) :
    Calls Tryd.prog 74 #[pv, qv] w fun e w' => ∃ v1 v2, e = .returned (.tuple #[v1, v2, .bool true]) ∧
      Two w w' v1 v2 (ci (dv (nat xs) (nat ys) (xs.length - ys.length) (xs.length - ys.length + 1) (xs.length - ys.length + 1)).2) (cutL (ci (dv (nat xs) (nat ys) (xs.length - ys.length) (xs.length - ys.length + 1) (xs.length - ys.length + 1)).1)) := by
  have P := hide hp
  have Q := hide hq
  have T := hide hT
  have G := hide hx
  have G2 := hide hy
  have lx := goodP_len hx
  have GX := hide (goodP_mem hx)
  have GY := hide (goodP_mem hy)
  have hlast := goodP_all hy (ys.length - 1) (by omega)
  obtain ⟨m, hm⟩ : ∃ m, m = xs.length - ys.length := ⟨_, rfl⟩
  rw [← hm]
  have em : (xs.length : Int) - (ys.length : Int) = (m : Int) := by omega
  have em' : xs.length = m + ys.length := by omega
  have EM := hide em'
  have hmx : m + 1 ≤ xs.length := by omega
  clear hm em'
  obtain ⟨pa, pcap, rfl, _, _, _⟩ := P.out
  have hq' := hq
  obtain ⟨qa, qcap, rfl, _, _, h3⟩ := hq'
  clear hp hq hx hy hT
  rcases h3 with h3 | ⟨qb, qoff, rfl, hqs, hqc⟩
  · subst h3; simp at h0
  have hqc1 := hqc (ys.length - 1) (by omega)
  clear hqc
  obtain ⟨t, ht⟩ : ∃ t, t = (nat ys).getD (ys.length - 1) 0 := ⟨_, rfl⟩
  have htx : ys.getD (ys.length - 1) 0 = (t : Int) := by
    have := ci_getD (nat ys) (ys.length - 1)
    rw [ci_natp GY.out] at this
    rw [this, ht]
  have ht256 : t < 256 := by omega
  rw [htx] at hqc1
  have HTop := hide ht
  clear ht htx hlast
  have t1 : ((ys.length : Int) == 0) = false := by simp; intro e; simp [e] at h0
  have t2 : ¬ (xs.length : Int) < (ys.length : Int) := by omega
  have hly : 0 < ys.length := by omega
  have f1 : ((ys.length : Int) - 1).toNat = ys.length - 1 := by omega
  have f2 : (0 : Int) ≤ (ys.length : Int) - 1 := by omega
  have f3 : (ys.length : Int) - 1 < (ys.length : Int) := by omega
  have hinv := inv_lt t
  clear h0 h
  go_enter Tryd.func74, Tryd.ntmps74
  go_wp2_with fail
  refine (isPoly_calls _ xs _ P.out).mono ?_
  rw [G.out]
  rintro e w' ⟨rfl, rfl⟩
  go_wp2_with fail
  refine (isPoly_calls _ ys _ Q.out).mono ?_
  rw [G2.out]
  rintro e w' ⟨rfl, rfl⟩
  go_wp2_with (first
    | (at_make; refine wpList_make_ints rfl (.tmp 32) (.tmp 32) rfl w.heap.size _ _ xs.length rfl rfl (by omega) (by omega) (by omega) (Nat.le_refl _) ?_; intro w0 hown0 hgrow0)
    | (refine wpList_copy_fresh rfl _ _ rfl w.heap.size w.heap.size xs.length _ rfl hown0 _ rfl xs (by exact P.out.below ((Below.refl _ _).grown hgrow0 (Nat.le_refl _) (fun k h => by cases h))) (Nat.le_refl _) (Nat.le_refl _) (by unfold maxLen; omega) w.heap.size w ((Below.refl _ _).grown hgrow0 (Nat.le_refl _) (fun k h => by cases h)) (Nat.le_refl _) ?_; intro w1 hown1 hb1 hg1)
    | (at_make; refine wpList_make_ints rfl (.tmp 42) (.tmp 42) rfl w1.heap.size _ _ (m + 1) rfl rfl (by omega) (by omega) (by omega) (Nat.le_refl _) ?_; intro w2 hown2 hgrow2; have hqc2 : w2.cell? ⟨qb, qoff + (ys.length - 1), none⟩ = some (.int .i64 (t : Nat)) := ((hb1.grown hgrow2 hb1.size (fun k h => by cases h)).cell (p := ⟨qb, qoff + (ys.length - 1), none⟩) hqs).trans hqc1))
  have B2 := hide (hb1.grown hgrow2 hb1.size (fun k h => by cases h))
  have hlt1 : w.heap.size < w1.heap.size := (World.ownsRow.lt hown1 w.heap.size rfl).2
  have OL : Hid (w2.ownsRow w.heap.size 3 1 (.slice (some ⟨w.heap.size, 0, none⟩) xs.length xs.length) xs.length ((ci (dv (nat xs) (nat ys) m (m + 1) 0).1).map (Value.int .i64))) := by
    have h := World.ownsRow.kept hown1 hgrow2 (.inr (by simp [Value.ownBlock]))
    rw [List.take_length] at h
    show World.ownsRow _ _ _ _ _ _ ((ci (nat xs)).map _)
    rw [ci_natp GX.out]
    exact h
  have OQ : Hid (w2.ownsRow w1.heap.size 3 1 (.slice (some ⟨w1.heap.size, 0, none⟩) (m + 1) (m + 1)) (m + 1) ((ci (dv (nat xs) (nat ys) m (m + 1) 0).2).map (Value.int .i64))) := by
    have h := hown2
    unfold Own at h
    rw [List.length_replicate] at h
    have e : (ci (dv (nat xs) (nat ys) m (m + 1) 0).2).map (Value.int .i64) = (List.replicate (m + 1) (0 : Int)).map (Value.int .i64) := by simp [dv, ci]
    rw [e]
    exact h
  clear hown0 hgrow0 hown1 hb1 hg1 hown2 hgrow2
  refine (inv_calls _ _ (T.out.below B2.out) (by omega) (by omega)).mono ?_
  rintro e w3 ⟨rfl, rfl⟩
  go_wp2
  go_loopw [10] (fun vk wr => ∃ j : Nat, j ≤ m + 1 ∧ vk = .int .i64 ((m : Int) - (j : Int)) ∧
      wr.ownsRow w.heap.size 3 1 (.slice (some ⟨w.heap.size, 0, none⟩) xs.length xs.length) xs.length ((ci (dv (nat xs) (nat ys) m (m + 1) j).1).map (Value.int .i64)) ∧
      wr.ownsRow w1.heap.size 3 1 (.slice (some ⟨w1.heap.size, 0, none⟩) (m + 1) (m + 1)) (m + 1) ((ci (dv (nat xs) (nat ys) m (m + 1) j).2).map (Value.int .i64)) ∧ Below w.heap.size w wr) (fun vk _ => (intOf vk + 1).toNat)
  case atStart => exact ⟨0, Nat.zero_le _, by go_num, OL.out, OQ.out, B2.out⟩
  case round =>
    obtain ⟨j, hj, rfl, hol, hoq, hb⟩ := hrel
    have L := hide hol
    have Qo := hide hoq
    have B := hide hb
    clear hol hoq hb
    by_cases hjm : j ≤ m
    · obtain ⟨k, hk⟩ : ∃ k, m = j + k := ⟨m - j, by omega⟩
      have hkm : m - j = k := by omega
      have e0 : (m : Int) - (j : Int) = (k : Int) := by omega
      rw [e0]
      have hk1 : k < m + 1 := by omega
      have hkx : k + ys.length ≤ xs.length := by have := EM.out; omega
      have HK := hide hkm
      clear hk hkm e0
      obtain ⟨y, hy⟩ : ∃ y, y = (dv (nat xs) (nat ys) m (m + 1) j).1.getD (k + ys.length - 1) 0 := ⟨_, rfl⟩
      have hy256 : y < 256 := by rw [hy]; exact dv_lt1 (nat_ltp GX.out) j _
      have hc1 := own_cell L.out (k + ys.length - 1) (by rw [dv_len1, nat_length]; omega)
      rw [← hy] at hc1
      have hc2 := Qo.out.frozenAt k
      have hc3 := own_cell Qo.out k (by rw [dv_len2]; exact hk1)
      obtain ⟨old, hold⟩ : ∃ old : Int, old = ((dv (nat xs) (nat ys) m (m + 1) j).2.getD k 0 : Nat) := ⟨_, rfl⟩
      rw [← hold] at hc3
      have hd : Hid (mul y (inv t) = dq (dv (nat xs) (nat ys) m (m + 1) j).1 (nat ys) k) := by
        show mul y (inv t) = _
        unfold dq
        rw [nat_length, ← hy, HTop.out]
      have hd256 : mul y (inv t) < 256 := mul_lt hy256
      clear hy hold
      have g1 : ((k : Int) + (ys.length : Int) - 1).toNat = k + ys.length - 1 := by omega
      have g2 : (0 : Int) ≤ (k : Int) + (ys.length : Int) - 1 := by omega
      have g3 : (k : Int) + (ys.length : Int) - 1 < (xs.length : Int) := by omega
      have g4 : (k : Int) < (m : Int) + 1 := by omega
      have Tr := hide (T.out.below B.out)
      obtain ⟨d, hdd⟩ : ∃ d, d = mul y (inv t) := ⟨_, rfl⟩
      have hdl : d < 256 := by rw [hdd]; exact hd256
      have HD := hide hdd
      clear hdd hd256
      go_wp2_with fail
      refine (mulE_calls _ _ _ Tr.out (by omega) (by omega) (by omega) (by omega)).mono ?_
      simp only [Int.toNat_natCast]
      rw [← HD.out]
      rintro e w4 ⟨rfl, rfl⟩
      go_wp2_with fail
      have hne : (Value.slice (some ⟨w.heap.size, 0, none⟩) xs.length xs.length).ownBlock ≠ some w1.heap.size := by simp [Value.ownBlock]; omega
      have L1 := hide (ownsRow_setCell_other L.out (a := ⟨w1.heap.size, k, none⟩) hne (.int .i64 (d : Nat)))
      have Q1 : Hid ((wr.setCell ⟨w1.heap.size, k, none⟩ (.int .i64 (d : Nat))).ownsRow w1.heap.size 3 1 (.slice (some ⟨w1.heap.size, 0, none⟩) (m + 1) (m + 1)) (m + 1) ((ci (dv (nat xs) (nat ys) m (m + 1) (j + 1)).2).map (Value.int .i64))) := by
        have h := (Qo.out.stored k (.int .i64 (d : Nat))).1
        rw [← List.map_set, ci_set] at h
        have e : (dv (nat xs) (nat ys) m (m + 1) (j + 1)).2 = (dv (nat xs) (nat ys) m (m + 1) j).2.set k d := by
          simp only [dv]
          rw [HK.out, HD.out, hd.out]
        rw [e]
        exact h
      have B1 : Hid (Below w.heap.size w (wr.setCell ⟨w1.heap.size, k, none⟩ (.int .i64 (d : Nat)))) := B.out.setCell (Nat.le_of_lt hlt1) _
      have keep : Hid (∀ w', (wr.setCell ⟨w1.heap.size, k, none⟩ (.int .i64 (d : Nat))).grownBy w' (some w.heap.size) → Below w.heap.size w w') := fun w' hg => B1.out.grown hg B1.out.size (fun k h => by simp at h; omega)
      refine (addMultiple_calls _ _ (dv (nat xs) (nat ys) m (m + 1) j).1 (nat ys) _ _ w.heap.size _ (fun w' hg => T.out.below (keep.out w' hg)) ?o1 ?q1 (by omega) (by omega) (by omega) ?f1 ?f2 (dv_lt1 (nat_ltp GX.out) j) (nat_ltp GY.out) ?f3).mono ?_
      case o1 =>
        show World.ownsRow _ _ _ _ _ (ci _).length _
        rw [ci_length, dv_len1, nat_length]
        exact L1.out
      case q1 =>
        intro w' hg
        rw [ci_natp GY.out]
        exact Q.out.below (keep.out w' hg)
      case f1 => rw [nat_length, dv_len1, nat_length]; omega
      case f2 => rw [dv_len1, nat_length]; omega
      case f3 => rw [dv_len1, nat_length]; omega
      rintro e w5 ⟨rfl, hown5, hg5⟩
      have L5 : Hid (w5.ownsRow w.heap.size 3 1 (.slice (some ⟨w.heap.size, 0, none⟩) xs.length xs.length) xs.length ((ci (dv (nat xs) (nat ys) m (m + 1) (j + 1)).1).map (Value.int .i64))) := by
        have h := hown5
        unfold Own at h
        rw [ci_length, amTo_length, dv_len1, nat_length, nat_length, Int.toNat_natCast, Int.toNat_natCast] at h
        have e : (dv (nat xs) (nat ys) m (m + 1) (j + 1)).1 = amTo (dv (nat xs) (nat ys) m (m + 1) j).1 (nat ys) d k ys.length := by
          simp only [dv]
          rw [HK.out, HD.out, hd.out, nat_length]
        rw [e]
        exact h
      have Q5 := hide (World.ownsRow.kept Q1.out hg5 (.inr (by simp [Value.ownBlock]; omega)))
      have B5 := hide (keep.out w5 hg5)
      clear hown5 hg5
      go_wp2
      go_roundw
      case rel => exact ⟨j + 1, by omega, int_eq (by have := HK.out; omega), L5.out, Q5.out, B5.out⟩
      case measure => simp [intOf]
    · obtain rfl : j = m + 1 := by omega
      have e0 : (m : Int) - ((m + 1 : Nat) : Int) = -1 := by omega
      rw [e0]
      have hL : Own wr w.heap.size (.slice (some ⟨w.heap.size, 0, none⟩) xs.length xs.length) (ci (dv (nat xs) (nat ys) m (m + 1) (m + 1)).1) := by
        show World.ownsRow _ _ _ _ _ (ci _).length _
        rw [ci_length, dv_len1, nat_length]
        exact L.out
      have hQ : Own wr w1.heap.size (.slice (some ⟨w1.heap.size, 0, none⟩) (m + 1) (m + 1)) (ci (dv (nat xs) (nat ys) m (m + 1) (m + 1)).2) := by
        show World.ownsRow _ _ _ _ _ (ci _).length _
        rw [ci_length, dv_len2]
        exact Qo.out
      have HL := hide hL
      have HQ := hide hQ
      have hqlt : w1.heap.size < wr.heap.size := (World.ownsRow.lt Qo.out w1.heap.size rfl).2
      clear hL hQ
      go_wp2_with fail
      refine (without_calls _ _ _ HL.out.rd (by rw [ci_length, dv_len1, nat_length]; omega)).mono ?_
      rintro e w6 ⟨v2, rfl, ho6, hb6⟩
      have R : Hid (Two w w6 (.slice (some ⟨w1.heap.size, 0, none⟩) (m + 1) (m + 1)) v2 (ci (dv (nat xs) (nat ys) m (m + 1) (m + 1)).2) (cutL (ci (dv (nat xs) (nat ys) m (m + 1) (m + 1)).1))) := by
        refine ⟨Own.mono (Own.below HQ.out hb6) (Nat.le_of_lt hlt1), Own.mono ho6 B.out.size, .inr ?_, B.out.trans (hb6.mono B.out.size)⟩
        intro e
        have := (ho6.lt w1.heap.size (by rw [← e]; rfl)).1
        omega
      clear ho6 hb6
      go_wp2
      go_ret3
      exact ⟨_, _, rfl, R.out⟩
end Gf
end Go.Proofs.YtogopakmebiomaaDoor

namespace Go.Proofs.YtogopakmebiomaaDoor
open Go.RowKit
namespace Gf

set_option maxRecDepth 100000 in
set_option maxHeartbeats 1600000 in
theorem sDivPoly_no (pv qv : Value) (xs ys : List Int) (w : World) (hp : Rd w pv xs) (hq : Rd w qv ys) (h : ¬ (goodP xs = true ∧ goodP ys = true ∧ ys.length ≠ 0)) :
    Calls Tryd.prog 70 #[pv, qv] w fun e w' => e = .returned (.tuple #[.slice none 0 0, .slice none 0 0, .bool false]) ∧ w = w' := by
  have P := hide hp
  have Q := hide hq
  clear hp hq
  cases hgx : goodP xs with
  | false =>
    have G := hide hgx
    clear hgx h
    go_enter Tryd.func70, Tryd.ntmps70
    go_wp2_with (go_at_call 126; refine (l1Poly_calls pv xs _ P.out).mono ?_; rw [G.out]; rintro e w' ⟨rfl, rfl⟩)
    go_ret3
    exact ⟨rfl, rfl⟩
  | true =>
    have G := hide hgx
    cases hgy : goodP ys with
    | false =>
      have G2 := hide hgy
      clear hgx hgy h
      go_enter Tryd.func70, Tryd.ntmps70
      go_wp2_with fail
      refine (l1Poly_calls pv xs _ P.out).mono ?_
      rw [G.out]
      rintro e w' ⟨rfl, rfl⟩
      go_wp2_with fail
      refine (l1Poly_calls qv ys _ Q.out).mono ?_
      rw [G2.out]
      rintro e w' ⟨rfl, rfl⟩
      go_wp2
      go_ret3
      exact ⟨rfl, rfl⟩
    | true =>
      have G2 := hide hgy
      have h0 : ys.length = 0 := by
        by_cases e : ys.length = 0
        · exact e
        · exact absurd ⟨hgx, hgy, e⟩ h
      obtain ⟨qa, qcap, rfl, _, _, _⟩ := Q.out
      have t1 : ((ys.length : Int) == 0) = true := by simp [List.eq_nil_of_length_eq_zero h0]
      clear hgx hgy h h0
      go_enter Tryd.func70, Tryd.ntmps70
      go_wp2_with fail
      refine (l1Poly_calls pv xs _ P.out).mono ?_
      rw [G.out]
      rintro e w' ⟨rfl, rfl⟩
      go_wp2_with fail
      refine (l1Poly_calls _ ys _ Q.out).mono ?_
      rw [G2.out]
      rintro e w' ⟨rfl, rfl⟩
      go_wp2
      go_ret3
      exact ⟨rfl, rfl⟩

/-- How far the model's division goes: no step where the first is shorter. -/
def steps (xs ys : List Int) : Nat := if xs.length < ys.length then 0 else xs.length - ys.length + 1

set_option maxRecDepth 100000 in
set_option maxHeartbeats 3200000 in
theorem sDivPoly_yes (pv qv : Value) (xs ys : List Int) (w : World) (hp : Rd w pv xs) (hq : Rd w qv ys) (hx : goodP xs = true) (hy : goodP ys = true) (h0 : ys.length ≠ 0) :
    Calls Tryd.prog 70 #[pv, qv] w fun e w' => ∃ v1 v2, e = .returned (.tuple #[v1, v2, .bool true]) ∧
      Two w w' v1 v2 (cutL (ci (dv (nat xs) (nat ys) (xs.length - ys.length) xs.length (steps xs ys)).2)) (cutL (ci (dv (nat xs) (nat ys) (xs.length - ys.length) xs.length (steps xs ys)).1)) := by
  have P := hide hp
  have Q := hide hq
  have G := hide hx
  have G2 := hide hy
  have lx := goodP_len hx
  have ly := goodP_len hy
  have GX := hide (goodP_mem hx)
  have GY := hide (goodP_mem hy)
  have AY := hide (goodP_all hy)
  have hlast := goodP_all hy (ys.length - 1) (by omega)
  obtain ⟨m, hm⟩ : ∃ m, m = xs.length - ys.length := ⟨_, rfl⟩
  obtain ⟨st, hst⟩ : ∃ st, st = steps xs ys := ⟨_, rfl⟩
  rw [← hm, ← hst]
  have hstep : (xs.length : Int) - (ys.length : Int) < 0 ∧ st = 0 ∨ (xs.length : Int) - (ys.length : Int) = (m : Int) ∧ st = m + 1 ∧ xs.length = m + ys.length := by
    unfold steps at hst
    split at hst <;> omega
  clear hm hst
  obtain ⟨pa, pcap, rfl, _, _, _⟩ := P.out
  have hq' := hq
  obtain ⟨qa, qcap, rfl, _, _, h3⟩ := hq'
  clear hp hq hx hy
  rcases h3 with h3 | ⟨qb, qoff, rfl, hqs, hqc⟩
  · subst h3; simp at h0
  have hqc1 := hqc (ys.length - 1) (by omega)
  have QC := hide hqc
  clear hqc
  obtain ⟨t, ht⟩ : ∃ t, t = (nat ys).getD (ys.length - 1) 0 := ⟨_, rfl⟩
  have htx : ys.getD (ys.length - 1) 0 = (t : Int) := by
    have := ci_getD (nat ys) (ys.length - 1)
    rw [ci_natp GY.out] at this
    rw [this, ht]
  have ht256 : t < 256 := by omega
  rw [htx] at hqc1
  have HTop := hide ht
  clear ht htx hlast
  have t1 : ((ys.length : Int) == 0) = false := by simp; intro e; simp [e] at h0
  have hly : 0 < ys.length := by omega
  have f1 : ((ys.length : Int) - 1).toNat = ys.length - 1 := by omega
  have f2 : (0 : Int) ≤ (ys.length : Int) - 1 := by omega
  have f3 : (ys.length : Int) - 1 < (ys.length : Int) := by omega
  have HS := hide hstep
  clear h0 hstep
  have OO : Hid (Own (w.alloc (.cells #[] 3)) w.heap.size (.slice (some ⟨w.heap.size, 0, none⟩) 0 0) []) :=
    World.ownsRow_lit w #[] 0 (Nat.le_refl _) (Nat.zero_le _) (by rfl)
  have RR := hide (P.out.below ((Below.refl w.heap.size w).alloc (Nat.le_refl _) (.cells #[] 3)))
  go_enter Tryd.func70, Tryd.ntmps70
  go_wp2_with fail
  refine (l1Poly_calls _ xs _ P.out).mono ?_
  rw [G.out]
  rintro e w' ⟨rfl, rfl⟩
  go_wp2_with fail
  refine (l1Poly_calls _ ys _ Q.out).mono ?_
  rw [G2.out]
  rintro e w' ⟨rfl, rfl⟩
  go_wp2_with (first
    | (at_builtin; refine wpList_append_rd rfl _ _ rfl w.heap.size _ 0 [] xs rfl OO.out _ rfl RR.out (by omega) (by simp) ?_; intro vr w1 hown1 hg1; have hb1 : Below w.heap.size w w1 := ((Below.refl _ _).alloc (Nat.le_refl _) _).grown hg1 (by simp) (fun k hk => (OO.out.lt k hk).1))
    | (at_make; refine wpList_make_ints rfl _ _ rfl w1.heap.size _ _ xs.length rfl rfl (by omega) (by omega) (by omega) (Nat.le_refl _) ?_; intro w2 hown2 hgrow2; have hqc2 : w2.cell? ⟨qb, qoff + (ys.length - 1), none⟩ = some (.int .i64 (t : Nat)) := ((hb1.grown hgrow2 hb1.size (fun k h => by cases h)).cell (p := ⟨qb, qoff + (ys.length - 1), none⟩) hqs).trans hqc1))
  have B2 := hide (hb1.grown hgrow2 hb1.size (fun k h => by cases h))
  have OQ : Hid (w2.ownsRow w1.heap.size 3 1 (.slice (some ⟨w1.heap.size, 0, none⟩) xs.length xs.length) xs.length ((ci (dv (nat xs) (nat ys) m xs.length 0).2).map (Value.int .i64))) := by
    have h := hown2
    unfold Own at h
    rw [List.length_replicate] at h
    have e : (ci (dv (nat xs) (nat ys) m xs.length 0).2).map (Value.int .i64) = (List.replicate xs.length (0 : Int)).map (Value.int .i64) := by simp [dv, ci]
    rw [e]
    exact h
  have OR : Hid (Own w2 w.heap.size vr (ci (dv (nat xs) (nat ys) m xs.length 0).1)) := by
    have h : Own w2 w.heap.size vr xs := World.ownsRow.kept hown1 hgrow2 (by cases hv : vr.ownBlock <;> simp)
    show Own w2 w.heap.size vr (ci (nat xs))
    rw [ci_natp GX.out]
    exact h
  have hvlt : ∀ k, vr.ownBlock = some k → w.heap.size ≤ k ∧ k < w1.heap.size := fun k hk => hown1.lt k hk
  have HV := hide hvlt
  have hlt1 := hb1.size
  clear hown1 hg1 hb1 hown2 hgrow2 hvlt hqc1
  rcases HS.out with ⟨hneg, hst⟩ | ⟨hpos, hst, hlen⟩
  · subst hst
    have HL : Hid (Own w2 w1.heap.size (.slice (some ⟨w1.heap.size, 0, none⟩) xs.length xs.length) (ci (dv (nat xs) (nat ys) m xs.length 0).2)) := by
      show World.ownsRow _ _ _ _ _ (ci _).length _
      rw [ci_length, dv_len2]
      exact OQ.out
    clear OQ HS
    go_wp2
    refine wp_loop_rounds 1 ?_
    rw [rounds_succ]
    go_wp2_with fail
    refine (l1Cut_calls _ _ _ HL.out.rd (by rw [ci_length, dv_len2]; omega)).mono ?_
    rintro e w3 ⟨v1, rfl, ho3, hb3⟩
    have O3 := hide ho3
    have B3 := hide hb3
    have R3 := hide (Own.below OR.out hb3)
    clear ho3 hb3
    go_wp2_with fail
    refine (l1Cut_calls _ _ _ R3.out.rd (by rw [ci_length, dv_len1, nat_length]; omega)).mono ?_
    rintro e w4 ⟨v2, rfl, ho4, hb4⟩
    have R : Hid (Two w w4 v1 v2 (cutL (ci (dv (nat xs) (nat ys) m xs.length 0).2)) (cutL (ci (dv (nat xs) (nat ys) m xs.length 0).1))) := by
      refine ⟨Own.mono (Own.below O3.out hb4) B2.out.size, Own.mono ho4 (Nat.le_trans B2.out.size B3.out.size), ?_, (B2.out.trans (B3.out.mono B2.out.size)).trans (hb4.mono (Nat.le_trans B2.out.size B3.out.size))⟩
      cases hv : v1.ownBlock with
      | none => exact .inl rfl
      | some k =>
        right
        intro e
        have h1 := (O3.out.lt k hv).2
        have h2 := (ho4.lt k e.symm).1
        omega
    clear ho4 hb4
    go_wp2
    go_ret3
    exact ⟨_, _, rfl, R.out⟩
  · subst hst
    have EM := hide hlen
    have hmx : m + 1 ≤ xs.length := by omega
    clear hlen
    have OR' : Hid (w2.ownsRow w.heap.size 3 1 vr xs.length ((ci (dv (nat xs) (nat ys) m xs.length 0).1).map (Value.int .i64))) := by
      have h := OR.out
      unfold Own at h
      rw [ci_length, dv_len1, nat_length] at h
      exact h
    obtain ⟨g, cap, hv, _⟩ := Own.open OR.out (by rw [ci_length, dv_len1, nat_length]; omega)
    rw [ci_length, dv_len1, nat_length] at hv
    subst hv
    have hg1 : w.heap.size ≤ g := (HV.out g rfl).1
    have hg2 : g < w1.heap.size := (HV.out g rfl).2
    clear OR HS HV
    rw [hpos]
    clear hpos
    go_wp2
    go_loopw [10] (fun vk wr => ∃ j : Nat, j ≤ m + 1 ∧ vk = .int .i64 ((m : Int) - (j : Int)) ∧
        wr.ownsRow w.heap.size 3 1 (.slice (some ⟨g, 0, none⟩) xs.length cap) xs.length ((ci (dv (nat xs) (nat ys) m xs.length j).1).map (Value.int .i64)) ∧
        wr.ownsRow w1.heap.size 3 1 (.slice (some ⟨w1.heap.size, 0, none⟩) xs.length xs.length) xs.length ((ci (dv (nat xs) (nat ys) m xs.length j).2).map (Value.int .i64)) ∧ Below w.heap.size w wr) (fun vk _ => (intOf vk + 1).toNat)
    case atStart => exact ⟨0, Nat.zero_le _, by go_num, OR'.out, OQ.out, B2.out⟩
    case round =>
      obtain ⟨j, hj, rfl, hol, hoq, hb⟩ := hrel
      have L := hide hol
      have Qo := hide hoq
      have B := hide hb
      clear hol hoq hb
      by_cases hjm : j ≤ m
      · obtain ⟨k, hk⟩ : ∃ k, m = j + k := ⟨m - j, by omega⟩
        have hkm : m - j = k := by omega
        have e0 : (m : Int) - (j : Int) = (k : Int) := by omega
        rw [e0]
        have hkx : k + ys.length ≤ xs.length := by have := EM.out; omega
        have HK := hide hkm
        have HM := hide hk
        clear hk hkm e0
        obtain ⟨y, hy⟩ : ∃ y, y = (dv (nat xs) (nat ys) m xs.length j).1.getD (k + ys.length - 1) 0 := ⟨_, rfl⟩
        have hy256 : y < 256 := by rw [hy]; exact dv_lt1 (nat_ltp GX.out) j _
        have hc1 := own_cell L.out (k + ys.length - 1) (by rw [dv_len1, nat_length]; omega)
        rw [← hy] at hc1
        have hc2 := Qo.out.frozenAt k
        have hc3 := own_cell Qo.out k (by rw [dv_len2]; omega)
        obtain ⟨old, hold⟩ : ∃ old : Int, old = ((dv (nat xs) (nat ys) m xs.length j).2.getD k 0 : Nat) := ⟨_, rfl⟩
        rw [← hold] at hc3
        have hd : Hid (mul y (inv t) = dq (dv (nat xs) (nat ys) m xs.length j).1 (nat ys) k) := by
          show mul y (inv t) = _
          unfold dq
          rw [nat_length, ← hy, HTop.out]
        have hd256 : mul y (inv t) < 256 := mul_lt hy256
        clear hy hold
        have g1 : ((k : Int) + (ys.length : Int) - 1).toNat = k + ys.length - 1 := by omega
        have g2 : (0 : Int) ≤ (k : Int) + (ys.length : Int) - 1 := by omega
        have g3 : (k : Int) + (ys.length : Int) - 1 < (xs.length : Int) := by omega
        have g4 : (k : Int) < (xs.length : Int) := by omega
        obtain ⟨d, hdd⟩ : ∃ d, d = mul y (inv t) := ⟨_, rfl⟩
        have hdl : d < 256 := by rw [hdd]; exact hd256
        have HD := hide hdd
        clear hdd hd256
        go_wp2_with fail
        refine (l1Div_calls _ _ _ (by omega) (by omega) (by omega) (by omega)).mono ?_
        simp only [Int.toNat_natCast]
        rw [← HD.out]
        rintro e w4 ⟨rfl, rfl⟩
        have hne : (Value.slice (some ⟨g, 0, none⟩) xs.length cap).ownBlock ≠ some w1.heap.size := by simp [Value.ownBlock]; omega
        have L1 := hide (ownsRow_setCell_other L.out (a := ⟨w1.heap.size, k, none⟩) hne (.int .i64 (d : Nat)))
        have Q1 : Hid ((wr.setCell ⟨w1.heap.size, k, none⟩ (.int .i64 (d : Nat))).ownsRow w1.heap.size 3 1 (.slice (some ⟨w1.heap.size, 0, none⟩) xs.length xs.length) xs.length ((ci (dv (nat xs) (nat ys) m xs.length (j + 1)).2).map (Value.int .i64))) := by
          have h := (Qo.out.stored k (.int .i64 (d : Nat))).1
          rw [← List.map_set, ci_set] at h
          have e : (dv (nat xs) (nat ys) m xs.length (j + 1)).2 = (dv (nat xs) (nat ys) m xs.length j).2.set k d := by
            simp only [dv]
            rw [HK.out, HD.out, hd.out]
          rw [e]
          exact h
        have B1 : Hid (Below w.heap.size w (wr.setCell ⟨w1.heap.size, k, none⟩ (.int .i64 (d : Nat)))) := B.out.setCell (by exact hlt1) _
        have E1 : Hid ((dv (nat xs) (nat ys) m xs.length (j + 1)).1 = amTo (dv (nat xs) (nat ys) m xs.length j).1 (nat ys) d k ys.length) := by
          show _ = _
          simp only [dv]
          rw [HK.out, HD.out, hd.out, nat_length]
        go_wp2
        go_loopw [64] (fun vi wi => ∃ i : Nat, i ≤ ys.length ∧ vi = .int .i64 i ∧
            wi.ownsRow w.heap.size 3 1 (.slice (some ⟨g, 0, none⟩) xs.length cap) xs.length ((ci (amTo (dv (nat xs) (nat ys) m xs.length j).1 (nat ys) d k i)).map (Value.int .i64)) ∧
            wi.ownsRow w1.heap.size 3 1 (.slice (some ⟨w1.heap.size, 0, none⟩) xs.length xs.length) xs.length ((ci (dv (nat xs) (nat ys) m xs.length (j + 1)).2).map (Value.int .i64)) ∧ Below w.heap.size w wi) (fun vi _ => ys.length - (intOf vi).toNat)
        case atStart => exact ⟨0, Nat.zero_le _, rfl, L1.out, Q1.out, B1.out⟩
        case round =>
          obtain ⟨i, hi, rfl, hol, hoq, hb⟩ := hrel
          by_cases hli : i < ys.length
          · have hcq := (hb.cell (p := ⟨qb, qoff + i, none⟩) hqs).trans (QC.out i hli)
            obtain ⟨Z, hZ⟩ : ∃ Z, Z = (nat ys).getD i 0 := ⟨_, rfl⟩
            have hZy : ys.getD i 0 = (Z : Int) := by
              have := ci_getD (nat ys) i
              rw [ci_natp GY.out] at this
              rw [this, hZ]
            have hZ256 : Z < 256 := by have := AY.out i hli; omega
            rw [hZy] at hcq
            have HZ := hide hZ
            clear hZ hZy
            have hki : k + i < xs.length := by omega
            have hcf := hol.frozenAt (k + i)
            obtain ⟨u, hu⟩ : ∃ u, u = (amTo (dv (nat xs) (nat ys) m xs.length j).1 (nat ys) d k i).getD (k + i) 0 := ⟨_, rfl⟩
            have hu256 : u < 256 := by
              rw [hu]
              exact amTo_lt (dv_lt1 (nat_ltp GX.out) j) hdl i _
            have hcu := own_cell hol (k + i) (by rw [amTo_length, dv_len1, nat_length]; exact hki)
            rw [← hu] at hcu
            have HU := hide hu
            clear hu
            have O2 := hide hol
            have Q2 := hide hoq
            have B3 := hide hb
            clear hol hoq hb
            have k1 : ((k : Int) + (i : Int)).toNat = k + i := by omega
            have k2 : (0 : Int) ≤ (k : Int) + (i : Int) := by omega
            have k3 : (k : Int) + (i : Int) < (xs.length : Int) := by omega
            have k4 : (i : Int) < (ys.length : Int) := by omega
            have k5 : IntKind.i64.wrap ((k : Int) + (i : Int)) = (k : Int) + (i : Int) := by rw [wrap_i64]; omega
            go_wp2
            go_region_with (go_at_call 128; refine (l1Mul_calls _ _ _ (by omega) (by omega) (by omega) (by omega)).mono ?_; rintro e w' ⟨rfl, rfl⟩)
            all_goals
              go_wp2
              go_roundw
              case rel =>
                refine ⟨i + 1, by omega, by go_num, ?_, ?_, ?_⟩
                · have h := (O2.out.stored (k + i) (.int .i64 (u ^^^ mul d Z : Nat))).1
                  rw [← List.map_set, ci_set, HU.out, HZ.out] at h
                  rw [i64_xor _ _ (by omega) (by have := mul_lt (a := d) (b := Z) (by omega); omega), HU.out, HZ.out]
                  exact h.drew
                · exact (ownsRow_setCell_other Q2.out (a := ⟨g, k + i, none⟩) (by simp [Value.ownBlock]; omega) _).drew
                · exact (B3.out.setCell (by exact hg1) _).drew
              case measure => simp [intOf]; omega
          · obtain rfl : i = ys.length := by omega
            have O2 := hide (And.intro hol (And.intro hoq hb))
            clear hol hoq hb
            go_wp2
            go_roundw
            case rel =>
              refine ⟨j + 1, by omega, int_eq (by have := HM.out; omega), ?_, O2.out.2.1, O2.out.2.2⟩
              rw [E1.out]
              exact O2.out.1
            case measure => simp [intOf]
      · obtain rfl : j = m + 1 := by omega
        have e0 : (m : Int) - ((m + 1 : Nat) : Int) = -1 := by omega
        rw [e0]
        have HL : Hid (Own wr w.heap.size (.slice (some ⟨g, 0, none⟩) xs.length cap) (ci (dv (nat xs) (nat ys) m xs.length (m + 1)).1)) := by
          show World.ownsRow _ _ _ _ _ (ci _).length _
          rw [ci_length, dv_len1, nat_length]
          exact L.out
        have HQ : Hid (Own wr w1.heap.size (.slice (some ⟨w1.heap.size, 0, none⟩) xs.length xs.length) (ci (dv (nat xs) (nat ys) m xs.length (m + 1)).2)) := by
          show World.ownsRow _ _ _ _ _ (ci _).length _
          rw [ci_length, dv_len2]
          exact Qo.out
        go_wp2_with fail
        refine (l1Cut_calls _ _ _ HQ.out.rd (by rw [ci_length, dv_len2]; omega)).mono ?_
        rintro e w3 ⟨v1, rfl, ho3, hb3⟩
        have O3 := hide ho3
        have B3 := hide hb3
        have R3 := hide (Own.below HL.out hb3)
        clear ho3 hb3
        go_wp2_with fail
        refine (l1Cut_calls _ _ _ R3.out.rd (by rw [ci_length, dv_len1, nat_length]; omega)).mono ?_
        rintro e w4 ⟨v2, rfl, ho4, hb4⟩
        have R : Hid (Two w w4 v1 v2 (cutL (ci (dv (nat xs) (nat ys) m xs.length (m + 1)).2)) (cutL (ci (dv (nat xs) (nat ys) m xs.length (m + 1)).1))) := by
          refine ⟨Own.mono (Own.below O3.out hb4) B.out.size, Own.mono ho4 (Nat.le_trans B.out.size B3.out.size), ?_, (B.out.trans (B3.out.mono B.out.size)).trans (hb4.mono (Nat.le_trans B.out.size B3.out.size))⟩
          cases hv : v1.ownBlock with
          | none => exact .inl rfl
          | some k =>
            right
            intro e
            have h1 := (O3.out.lt k hv).2
            have h2 := (ho4.lt k e.symm).1
            omega
        clear ho4 hb4
        go_wp2
        go_ret3
        exact ⟨_, _, rfl, R.out⟩
end Gf
end Go.Proofs.YtogopakmebiomaaDoor

namespace Go.Proofs.YtogopakmebiomaaDoor
open Go.RowKit
namespace Gf

theorem divPoly_calls (pv qv : Value) (xs ys : List Int) (w : World) (hT : Tab w) (hp : Rd w pv xs) (hq : Rd w qv ys) :
    Calls Tryd.prog 74 #[pv, qv] w fun e w' => ∃ v1 v2, e = .returned (.tuple #[v1, v2, .bool (divR xs ys).2.2]) ∧ Two w w' v1 v2 (divR xs ys).1 (divR xs ys).2.1 := by
  by_cases h : goodP xs = true ∧ goodP ys = true ∧ ys.length ≠ 0
  · by_cases hs : xs.length < ys.length
    · rw [divR_short h.1 h.2.1 h.2.2 hs]
      exact (divPoly_short pv qv xs ys w hp hq h.1 h.2.1 h.2.2 hs).mono fun e w' ⟨v2, he, ho, hb⟩ => ⟨_, v2, he, Two.nil1 ho hb⟩
    · rw [divR_yes h.1 h.2.1 h.2.2 hs]
      exact divPoly_yes pv qv xs ys w hT hp hq h.1 h.2.1 h.2.2 hs
  · rw [divR_no h]
    exact (divPoly_no pv qv xs ys w hp hq h).mono fun e w' ⟨he, hw⟩ => ⟨_, _, he, hw ▸ Two.nil1 (own_nil _ _) (Below.refl _ _)⟩
theorem sDivPoly_calls (pv qv : Value) (xs ys : List Int) (w : World) (hp : Rd w pv xs) (hq : Rd w qv ys) :
    Calls Tryd.prog 70 #[pv, qv] w fun e w' => ∃ v1 v2, e = .returned (.tuple #[v1, v2, .bool (divR xs ys).2.2]) ∧ Two w w' v1 v2 (divR xs ys).1 (divR xs ys).2.1 := by
  by_cases h : goodP xs = true ∧ goodP ys = true ∧ ys.length ≠ 0
  · have hy := sDivPoly_yes pv qv xs ys w hp hq h.1 h.2.1 h.2.2
    by_cases hs : xs.length < ys.length
    · rw [divR_short h.1 h.2.1 h.2.2 hs]
      have e : steps xs ys = 0 := by unfold steps; rw [if_pos hs]
      rw [e] at hy
      have e1 : cutL (ci (dv (nat xs) (nat ys) (xs.length - ys.length) xs.length 0).2) = [] := cutL_zeros _
      have e2 : ci (dv (nat xs) (nat ys) (xs.length - ys.length) xs.length 0).1 = xs := ci_natp (goodP_mem h.1)
      rw [e1, e2] at hy
      exact hy
    · rw [divR_yes h.1 h.2.1 h.2.2 hs]
      have h0 : 0 < ys.length := by omega
      have e : steps xs ys = xs.length - ys.length + 1 := by unfold steps; rw [if_neg hs]
      rw [e, cut_dv h.1 h.2.1 h0 (by omega), dv_same1 h0 (by omega)] at hy
      exact hy
  · rw [divR_no h]
    exact (sDivPoly_no pv qv xs ys w hp hq h).mono fun e w' ⟨he, hw⟩ => ⟨_, _, he, hw ▸ Two.nil1 (own_nil _ _) (Below.refl _ _)⟩
end Gf
end Go.Proofs.YtogopakmebiomaaDoor

namespace Go.Proofs.YtogopakmebiomaaDoor
open Go.RowKit

theorem spl_twoW (N : Nat) (fs bs : List Int) (h : N = fs.length + bs.length) : spl (spl (List.replicate N 0) 0 fs) fs.length bs = fs ++ bs := by
  subst h
  simp [spl]
set_option maxRecDepth 100000 in
set_option maxHeartbeats 800000 in
theorem joinInts_calls (fv bv : Value) (fs bs : List Int) (w : World) (hf : Rd w fv fs) (hb : Rd w bv bs) (hn1 : fs.length ≤ 4096) (hn2 : bs.length ≤ 4096) (h1 : 0 < fs.length) (h0 : 0 < bs.length) :
    Calls Tryd.prog 73 #[fv, bv] w fun e w' => ∃ N, N = fs.length + bs.length ∧ e = .returned (.slice (some ⟨w.heap.size, 0, none⟩) N N) ∧ Own w' w.heap.size (.slice (some ⟨w.heap.size, 0, none⟩) N N) (fs ++ bs) ∧ Below w.heap.size w w' := by
  have F := hide hf
  have G := hide hb
  obtain ⟨fa, fcap, rfl, _⟩ := hf
  obtain ⟨ba, bcap, rfl, _⟩ := hb
  obtain ⟨N, hN⟩ : ∃ N, N = fs.length + bs.length := ⟨_, rfl⟩
  have HN := hide hN
  have hN1 : fs.length < N := by omega
  have hN2 : N ≤ 8192 := by omega
  have HN3 : Hid (((fs.length : Int) + (bs.length : Int)) = (N : Int)) := by show ((fs.length : Int) + (bs.length : Int)) = (N : Int); omega
  have hN4 : Hid (fs.length + bs.length ≤ N) := by show fs.length + bs.length ≤ N; omega
  clear hN
  go_enter Tryd.func73, Tryd.ntmps73
  go_wp2_with (at_make; refine wpList_make_ints rfl _ _ rfl w.heap.size _ _ N rfl rfl HN3.out HN3.out (by omega) (Nat.le_refl _) ?_)
  intro w0 ho0 hg0
  have hb0 : Below w.heap.size w w0 := (Below.refl _ _).grown hg0 (Nat.le_refl _) (fun k h => by cases h)
  have O0 := hide ho0
  have B0 := hide hb0
  clear hg0 ho0 hb0
  go_wp2_with (refine wpList_copy_at rfl (.tmp 12) (.tmp 13) rfl w.heap.size w.heap.size N 0 N N _ _ _ (List.replicate N 0) fs rfl rfl O0.out (F.out.below B0.out) h1 (by omega) (by rw [List.length_replicate]; omega) ?_)
  intro w1 ho1 hg1
  have hb1 : Below w.heap.size w w1 := B0.out.grown hg1 B0.out.size (fun k hk => by cases hk; exact Nat.le_refl _)
  have O1 := hide ho1
  have B1 := hide hb1
  have i0 : (0 : Int) ≤ (fs.length : Int) := by omega
  have i1 : (fs.length : Int) ≤ (N : Int) := by omega
  have i3 : ¬ (N = fs.length) := by omega
  clear ho1 hg1 hb1
  go_wp2_with (refine wpList_copy_at rfl (.tmp 18) (.tmp 19) rfl w.heap.size w.heap.size N fs.length (N - fs.length) (N - fs.length) _ _ _ (spl (List.replicate N 0) 0 fs) bs rfl rfl O1.out (G.out.below B1.out) h0 (by have := hN4.out; omega) (by rw [spl_length _ _ _ (by rw [List.length_replicate]; omega), List.length_replicate]; exact hN4.out) ?_)
  intro w2 ho2 hg2
  have hb2 : Below w.heap.size w w2 := B1.out.grown hg2 B1.out.size (fun k hk => by cases hk; exact Nat.le_refl _)
  rw [spl_twoW N fs bs HN.out] at ho2
  have O2 := hide ho2
  have B2 := hide hb2
  clear ho2 hg2 hb2
  go_wp2
  go_ret
  exact ⟨N, HN.out, rfl, O2.out, B2.out⟩
namespace Gf

def meOk (xs : List Int) (t : Int) : Bool := wOk t && decide (1 ≤ xs.length) && decide ((xs.length : Int) ≤ 24 - 2 * t) && xs.all elOk
theorem meOk_yes {xs : List Int} {t : Int} (h : meOk xs t = true) : wOk t = true ∧ 1 ≤ xs.length ∧ (xs.length : Int) ≤ 24 - 2 * t ∧ xs.all elOk = true := by
  simp only [meOk, Bool.and_eq_true, decide_eq_true_eq] at h
  exact ⟨h.1.1.1, h.1.1.2, h.1.2, h.2⟩
theorem meOk_mk {xs : List Int} {t : Int} (h1 : wOk t = true) (h2 : 1 ≤ xs.length) (h3 : (xs.length : Int) ≤ 24 - 2 * t) (h4 : xs.all elOk = true) : meOk xs t = true := by
  simp only [meOk, Bool.and_eq_true, decide_eq_true_eq]
  exact ⟨⟨⟨h1, h2⟩, h3⟩, h4⟩
theorem meOk_no {xs : List Int} {t : Int} (h : ¬ (wOk t = true ∧ 1 ≤ xs.length ∧ (xs.length : Int) ≤ 24 - 2 * t ∧ xs.all elOk = true)) : meOk xs t = false := by
  cases hh : meOk xs t with
  | false => rfl
  | true => exact absurd (meOk_yes hh) h
/-- Noughts for the checks, then the message. -/
def rawW (xs : List Int) (n : Nat) : List Int := List.replicate (2 * n) 0 ++ xs
theorem rawW_length (xs : List Int) (n : Nat) : (rawW xs n).length = 2 * n + xs.length := by simp [rawW]
theorem rawW_all {xs : List Int} (n : Nat) (h : xs.all elOk = true) : (rawW xs n).all elOk = true := by
  rw [rawW, List.all_append, h, Bool.and_true, List.all_eq_true]
  intro x hx
  rw [(List.mem_replicate.1 hx).2]
  rfl
/-- What is left when the generator divides. -/
def restW (xs : List Int) (n : Nat) : List Int := (divR (cutL (rawW xs n)) (genI (2 * n))).2.1
def wordW (xs : List Int) (n : Nat) : List Int := spl (rawW xs n) 0 (restW xs n)
theorem div_ok {xs : List Int} {n : Nat} (hn : n ≤ 3) (he : xs.all elOk = true) (hl : xs.length ≤ 24) : (divR (cutL (rawW xs n)) (genI (2 * n))).2.2 = true := by
  have g := gen_facts (k := 2 * n) (by omega)
  have c := cut_good (rawW_all n he) (by rw [rawW_length]; omega)
  by_cases hs : (cutL (rawW xs n)).length < (genI (2 * n)).length
  · rw [divR_short c g.1 (by rw [g.2]; omega) hs]
  · rw [divR_yes c g.1 (by rw [g.2]; omega) hs]
theorem rest_len {xs : List Int} {n : Nat} (hn : n ≤ 3) (he : xs.all elOk = true) (hl : xs.length ≤ 24) : (restW xs n).length ≤ 2 * n := by
  have := (div_facts (div_ok hn he hl)).2.2.2.2.1
  rw [(gen_facts (k := 2 * n) (by omega)).2] at this
  show (restW xs n).length ≤ _
  unfold restW
  omega
theorem rest_good {xs : List Int} {n : Nat} (hn : n ≤ 3) (he : xs.all elOk = true) (hl : xs.length ≤ 24) : goodP (restW xs n) = true := (div_facts (div_ok hn he hl)).2.2.2.1
theorem wordW_length {xs : List Int} {n : Nat} (hn : n ≤ 3) (he : xs.all elOk = true) (hl : xs.length ≤ 24) : (wordW xs n).length = 2 * n + xs.length := by
  have := rest_len hn he hl
  unfold wordW
  rw [spl_length _ _ _ (by rw [rawW_length]; omega), rawW_length]
def encW (xs : List Int) (t : Int) : List Int × Bool := if meOk xs t = true then (wordW xs t.toNat, true) else ([], false)
theorem encW_yes {xs : List Int} {t : Int} (h : meOk xs t = true) : encW xs t = (wordW xs t.toNat, true) := if_pos h
theorem encW_no {xs : List Int} {t : Int} (h : meOk xs t = false) : encW xs t = ([], false) := if_neg (by rw [h]; decide)
theorem encW_len (xs : List Int) (t : Int) : (encW xs t).1.length ≤ 1048576 := by
  unfold encW
  split
  next h =>
    obtain ⟨h1, h2, h3, h4⟩ := meOk_yes h
    have := wOk_iff.1 h1
    show (wordW xs t.toNat).length ≤ _
    rw [wordW_length (by omega) h4 (by omega)]
    omega
  next => show 0 ≤ _; omega
set_option maxRecDepth 100000 in
set_option maxHeartbeats 3200000 in
theorem encodeWord_no (v : Value) (xs : List Int) (t : Int) (w : World) (hT : Tab w) (h : Rd w v xs) (hw : meOk xs t = false) :
    Calls Tryd.prog 20 #[v, .int .i64 t] w fun e w' => e = .returned (.tuple #[.slice none 0 0, .bool false]) ∧ Below w.heap.size w w' := by
  have R := hide h
  have T := hide hT
  clear hT
  obtain ⟨a, cap, rfl, _, _, _⟩ := h
  cases h1 : wOk t with
  | false =>
    have G := hide (genR_no h1)
    clear h1 hw
    go_enter Tryd.func20, Tryd.ntmps20
    go_wp2_with fail
    refine (generatorOf_calls t _ T.out).mono ?_
    rw [G.out]
    rintro e w1 ⟨v1, rfl, ho1, hb1⟩
    have B1 := hide hb1
    clear ho1 hb1
    go_wp2
    go_ret2
    exact ⟨rfl, B1.out⟩
  | true =>
    obtain ⟨q1, q3⟩ := wOk_iff.1 h1
    obtain ⟨n, rfl⟩ := Int.eq_ofNat_of_zero_le (a := t) (by omega)
    have G := hide (genR_yes h1)
    by_cases h2 : 1 ≤ xs.length
    case neg =>
      have h2' : (xs.length : Int) < 1 := by omega
      clear h1 hw h2
      go_enter Tryd.func20, Tryd.ntmps20
      go_wp2_with fail
      refine (generatorOf_calls _ _ T.out).mono ?_
      rw [G.out]
      rintro e w1 ⟨v1, rfl, ho1, hb1⟩
      have B1 := hide hb1
      clear ho1 hb1
      go_wp2
      go_ret2
      exact ⟨rfl, B1.out⟩
    have h2' : ¬ (xs.length : Int) < 1 := by omega
    by_cases h3 : (xs.length : Int) ≤ 24 - 2 * (n : Int)
    case neg =>
      have h3' : (24 : Int) - ((2 * n : Nat) : Int) < (xs.length : Int) := by omega
      clear h1 hw h2 h3
      go_enter Tryd.func20, Tryd.ntmps20
      go_wp2_with fail
      refine (generatorOf_calls _ _ T.out).mono ?_
      rw [G.out]
      rintro e w1 ⟨v1, rfl, ho1, hb1⟩
      have B1 := hide hb1
      clear ho1 hb1
      go_wp2_with fail
      refine (checksOf_calls n _ (by omega)).mono ?_
      rintro e w' ⟨rfl, rfl⟩
      go_wp2
      go_ret2
      exact ⟨rfl, B1.out⟩
    have h3' : ¬ (24 : Int) - ((2 * n : Nat) : Int) < (xs.length : Int) := by omega
    have h4 : xs.all elOk = false := by
      cases hh : xs.all elOk with
      | false => rfl
      | true => rw [meOk_mk h1 h2 h3 hh] at hw; cases hw
    have E := hide h4
    clear h1 hw h2 h3 h4
    go_enter Tryd.func20, Tryd.ntmps20
    go_wp2_with fail
    refine (generatorOf_calls _ _ T.out).mono ?_
    rw [G.out]
    rintro e w1 ⟨v1, rfl, ho1, hb1⟩
    have B1 := hide hb1
    clear ho1 hb1
    go_wp2_with fail
    refine (checksOf_calls n _ (by omega)).mono ?_
    rintro e w' ⟨rfl, rfl⟩
    go_wp2_with fail
    refine (areElements_calls _ xs _ (R.out.below B1.out)).mono ?_
    rw [E.out]
    rintro e w' ⟨rfl, rfl⟩
    go_wp2
    go_ret2
    exact ⟨rfl, B1.out⟩

set_option maxRecDepth 100000 in
set_option maxHeartbeats 3200000 in
theorem encodeWord_calls (v : Value) (xs : List Int) (t : Int) (w : World) (hT : Tab w) (h : Rd w v xs) :
    Calls Tryd.prog 20 #[v, .int .i64 t] w fun e w' => ∃ v', e = .returned (.tuple #[v', .bool (encW xs t).2]) ∧ Own w' w.heap.size v' (encW xs t).1 ∧ Below w.heap.size w w' := by
  cases hw : meOk xs t with
  | false =>
    rw [encW_no hw]
    refine (encodeWord_no v xs t w hT h hw).mono ?_
    rintro e w' ⟨rfl, hb⟩
    exact ⟨_, rfl, own_nil _ _, hb⟩
  | true =>
    rw [encW_yes hw]
    have T := hide hT
    have R := hide h
    obtain ⟨a, cap, rfl, _, _, _⟩ := h
    obtain ⟨h1, h2, h3, h4⟩ := meOk_yes hw
    obtain ⟨q1, q3⟩ := wOk_iff.1 h1
    obtain ⟨n, rfl⟩ := Int.eq_ofNat_of_zero_le (a := t) (by omega)
    rw [Int.toNat_natCast]
    have G := hide (genR_yes h1)
    have E := hide h4
    have h2' : ¬ (xs.length : Int) < 1 := by omega
    have h3' : ¬ (24 : Int) - ((2 * n : Nat) : Int) < (xs.length : Int) := by omega
    have hl : xs.length ≤ 24 := by omega
    clear hw hT h1 h4
    go_enter Tryd.func20, Tryd.ntmps20
    go_wp2_with fail
    refine (generatorOf_calls _ _ T.out).mono ?_
    rw [G.out, Int.toNat_natCast]
    rintro e w1 ⟨v1, rfl, ho1, hb1⟩
    have RG := hide ho1.rd
    have B1 := hide hb1
    clear ho1 hb1
    go_wp2_with fail
    refine (checksOf_calls n _ (by omega)).mono ?_
    rintro e w' ⟨rfl, rfl⟩
    go_wp2_with fail
    refine (areElements_calls _ xs _ (R.out.below B1.out)).mono ?_
    rw [E.out]
    rintro e w' ⟨rfl, rfl⟩
    go_wp2_with fail
    refine (checksOf_calls n _ (by omega)).mono ?_
    rintro e w' ⟨rfl, rfl⟩
    go_wp2_with (at_make; refine wpList_make_ints rfl _ _ rfl w1.heap.size _ _ (2 * n) rfl rfl (by omega) (by omega) (by omega) (Nat.le_refl _) ?_)
    intro w2 ho2 hg2
    have R2 := hide ho2.rd
    have B2 := hide ((Below.refl w1.heap.size w1).grown hg2 (Nat.le_refl _) (fun k h => by cases h))
    clear ho2 hg2
    go_wp2_with fail
    refine (joinInts_calls _ _ (List.replicate (2 * n) 0) xs _ R2.out ((R.out.below B1.out).below B2.out) (by rw [List.length_replicate]; omega) (by omega) (by rw [List.length_replicate]; omega) (by omega)).mono ?_
    rintro e w3 ⟨N, hN, rfl, ho3, hb3⟩
    have hN' : N = 2 * n + xs.length := by rw [hN, List.length_replicate]
    have O3 := hide (show Own w3 w2.heap.size _ (rawW xs n) from ho3)
    have B3 := hide hb3
    have HN := hide hN'
    have hN30 : N ≤ 30 := by omega
    clear ho3 hb3 hN hN'
    go_wp2_with fail
    refine (without_calls _ (rawW xs n) _ O3.out.rd (by rw [rawW_length]; omega)).mono ?_
    rintro e w4 ⟨v4, rfl, ho4, hb4⟩
    have R4 := hide ho4.rd
    have O4 := hide (O3.out.below hb4)
    have B4 := hide hb4
    have s1 := B1.out.size
    have s2 := B2.out.size
    have s3 := B3.out.size
    have s4 := hb4.size
    clear ho4 hb4 O3
    go_wp2_with fail
    refine (divPoly_calls _ _ (cutL (rawW xs n)) (genI (2 * n)) _ ((((T.out.below B1.out).below B2.out).below B3.out).below B4.out) R4.out (((RG.out.below B2.out).below B3.out).below B4.out)).mono ?_
    rintro e w5 ⟨v5, v6, rfl, ho5, ho6, _, hb5⟩
    have O5 := hide (O4.out.below hb5)
    have R6 := hide (show Rd w5 v6 (restW xs n) from ho6.rd)
    have B5 : Hid (Below w2.heap.size w2 w5) := (B3.out.trans (B4.out.mono s3)).trans (hb5.mono (by omega))
    have hrl := rest_len (n := n) (by omega) E.out hl
    have s5 := hb5.size
    clear ho5 ho6 hb5 O4 R4
    have fin : ∀ w6, Own w6 w2.heap.size (.slice (some ⟨w2.heap.size, 0, none⟩) N N) (wordW xs n) → Below w2.heap.size w2 w6 → Own w6 w.heap.size (.slice (some ⟨w2.heap.size, 0, none⟩) N N) (wordW xs n) ∧ Below w.heap.size w w6 := fun w6 h1 h2 =>
      ⟨h1.mono (by omega), B1.out.trans ((B2.out.mono s1).trans (h2.mono (by omega)))⟩
    have FIN := hide fin
    clear fin
    by_cases h0 : (restW xs n).length = 0
    · have he : restW xs n = [] := List.eq_nil_of_length_eq_zero h0
      have O6 : Hid (Own w5 w2.heap.size (.slice (some ⟨w2.heap.size, 0, none⟩) N N) (wordW xs n)) := by
        have : wordW xs n = rawW xs n := by unfold wordW; rw [he]; simp [spl]
        rw [this]; exact O5.out
      obtain ⟨a6, c6, rfl, _, _, _⟩ := R6.out
      rw [h0]
      clear he
      go_wp2_with (refine wpList_copy_nothing rfl (.tmp 50) (.tmp 51) 22 22 rfl 3 Tryd.underlying22 infoSize _ _ _ _ 0 _ rfl rfl (by simp) ?_)
      go_wp2
      go_ret2
      exact ⟨_, rfl, FIN.out _ O6.out B5.out⟩
    · obtain ⟨a6, c6, rfl, _, _, _⟩ := R6.out
      go_wp2_with (refine wpList_copy_at rfl (.tmp 50) (.tmp 51) rfl w2.heap.size w2.heap.size N 0 N N _ _ _ (rawW xs n) (restW xs n) rfl rfl O5.out R6.out (by omega) (by have := HN.out; omega) (by rw [rawW_length]; omega) ?_)
      intro w6 ho6 hg6
      have O6 := hide (show Own w6 w2.heap.size (.slice (some ⟨w2.heap.size, 0, none⟩) N N) (wordW xs n) from ho6)
      have B6 : Hid (Below w2.heap.size w2 w6) := B5.out.grown hg6 B5.out.size (fun k hk => by cases hk; exact Nat.le_refl _)
      clear ho6 hg6
      go_wp2
      go_ret2
      exact ⟨_, rfl, FIN.out _ O6.out B6.out⟩
end Gf
end Go.Proofs.YtogopakmebiomaaDoor

namespace Go.Proofs.YtogopakmebiomaaDoor
open Go.RowKit
namespace Gf

theorem spl_zero (raw : List Int) : spl raw 0 (([] : List Int).take 0) = raw := by simp [spl]
theorem spl_step {raw rest : List Int} {k : Nat} (hk : k < rest.length) (hl : rest.length ≤ raw.length) : (spl raw 0 (rest.take k)).set k (rest.getD k 0) = spl raw 0 (rest.take (k + 1)) := by
  have e1 : (rest.take k).length = k := by rw [List.length_take]; omega
  have e2 : (rest.take (k + 1)).length = k + 1 := by rw [List.length_take]; omega
  unfold spl
  rw [List.take_zero, List.nil_append, List.nil_append, e1, e2, Nat.zero_add, Nat.zero_add, List.set_append_right _ _ (by omega), e1, Nat.sub_self, List.drop_eq_getElem_cons (show k < raw.length by omega), List.set_cons_zero, take_snoc2 rest k hk, List.append_assoc]
  rfl

set_option maxRecDepth 100000 in
set_option maxHeartbeats 3200000 in
theorem sEncodeWord_no (v : Value) (xs : List Int) (t : Int) (w : World) (h : Rd w v xs) (hw : meOk xs t = false) :
    Calls Tryd.prog 18 #[v, .int .i64 t] w fun e w' => e = .returned (.tuple #[.slice none 0 0, .bool false]) ∧ w = w' := by
  have R := hide h
  obtain ⟨a, cap, rfl, g1, g2, _⟩ := h
  have hm : xs.length ≤ maxLen := by omega
  unfold maxLen at hm
  clear g1 g2
  cases h1 : wOk t with
  | false =>
    have G := hide h1
    clear h1 hw
    go_enter Tryd.func18, Tryd.ntmps18
    go_wp2_with fail
    refine (l4Wrong_calls t _).mono ?_
    rw [G.out]
    rintro e w' ⟨rfl, rfl⟩
    go_wp2
    go_ret2
    exact ⟨rfl, rfl⟩
  | true =>
    obtain ⟨q1, q3⟩ := wOk_iff.1 h1
    have G := hide h1
    by_cases h2 : 1 ≤ (xs.length : Int) ∧ (xs.length : Int) ≤ 24 - 2 * t
    case neg =>
      have D := hide (decide_eq_false h2)
      clear h1 hw h2
      go_enter Tryd.func18, Tryd.ntmps18
      go_wp2_with fail
      refine (l4Wrong_calls t _).mono ?_
      rw [G.out]
      rintro e w' ⟨rfl, rfl⟩
      go_wp2_with fail
      refine (l1In_calls _ _ _ _).mono ?_
      rw [D.out]
      rintro e w' ⟨rfl, rfl⟩
      go_wp2
      go_ret2
      exact ⟨rfl, rfl⟩
    have h4 : xs.all elOk = false := by
      cases hh : xs.all elOk with
      | false => rfl
      | true => rw [meOk_mk h1 (by omega) h2.2 hh] at hw; cases hw
    have E := hide h4
    have D := hide (decide_eq_true h2)
    clear h1 hw h2 h4
    go_enter Tryd.func18, Tryd.ntmps18
    go_wp2_with fail
    refine (l4Wrong_calls t _).mono ?_
    rw [G.out]
    rintro e w' ⟨rfl, rfl⟩
    go_wp2_with fail
    refine (l1In_calls _ _ _ _).mono ?_
    rw [D.out]
    rintro e w' ⟨rfl, rfl⟩
    go_wp2_with fail
    refine (l1All_calls _ xs _ R.out).mono ?_
    rw [E.out]
    rintro e w' ⟨rfl, rfl⟩
    go_wp2
    go_ret2
    exact ⟨rfl, rfl⟩

set_option maxRecDepth 100000 in
set_option maxHeartbeats 3200000 in
theorem sEncodeWord_calls (v : Value) (xs : List Int) (t : Int) (w : World) (h : Rd w v xs) :
    Calls Tryd.prog 18 #[v, .int .i64 t] w fun e w' => ∃ v', e = .returned (.tuple #[v', .bool (encW xs t).2]) ∧ Own w' w.heap.size v' (encW xs t).1 ∧ Below w.heap.size w w' := by
  cases hw : meOk xs t with
  | false =>
    rw [encW_no hw]
    refine (sEncodeWord_no v xs t w h hw).mono ?_
    rintro e w' ⟨rfl, rfl⟩
    exact ⟨_, rfl, own_nil _ _, Below.refl _ _⟩
  | true =>
    rw [encW_yes hw]
    have R := hide h
    obtain ⟨a, cap, rfl, _, _, _⟩ := h
    obtain ⟨h1, h2, h3, h4⟩ := meOk_yes hw
    obtain ⟨q1, q3⟩ := wOk_iff.1 h1
    obtain ⟨n, rfl⟩ := Int.eq_ofNat_of_zero_le (a := t) (by omega)
    rw [Int.toNat_natCast]
    have G := hide h1
    have E := hide h4
    have D := hide (decide_eq_true (p := 1 ≤ (xs.length : Int) ∧ (xs.length : Int) ≤ 24 - 2 * (n : Int)) (by omega))
    have hl : xs.length ≤ 24 := by omega
    obtain ⟨rest, hrest⟩ : ∃ r, r = restW xs n := ⟨_, rfl⟩
    obtain ⟨raw, hraw⟩ : ∃ r, r = rawW xs n := ⟨_, rfl⟩
    have hrl := rest_len (n := n) (by omega) E.out hl
    have hral := rawW_length xs n
    have hword : wordW xs n = spl raw 0 (rest.take rest.length) := by rw [List.take_of_length_le (Nat.le_refl _), hraw, hrest]; rfl
    rw [hword]
    rw [← hrest] at hrl
    rw [← hraw] at hral
    have HR := hide hrest
    have HW := hide hraw
    have HL := hide hral
    have HRL : Hid (rest.length ≤ raw.length) := by show rest.length ≤ raw.length; omega
    clear hw h1 h4 hword hrest hraw hral
    go_enter Tryd.func18, Tryd.ntmps18
    go_wp2_with fail
    refine (l4Wrong_calls _ _).mono ?_
    rw [G.out]
    rintro e w' ⟨rfl, rfl⟩
    go_wp2_with fail
    refine (l1In_calls _ _ _ _).mono ?_
    rw [D.out]
    rintro e w' ⟨rfl, rfl⟩
    go_wp2_with fail
    refine (l1All_calls _ xs _ R.out).mono ?_
    rw [E.out]
    rintro e w' ⟨rfl, rfl⟩
    go_wp2_with (at_make; refine wpList_make_ints rfl _ _ rfl w.heap.size _ _ (2 * n) rfl rfl (by omega) (by omega) (by omega) (Nat.le_refl _) ?_)
    intro w1 ho1 hg1
    have B1 := hide ((Below.refl w.heap.size w).grown hg1 (Nat.le_refl _) (fun k h => by cases h))
    have O1 := hide ho1
    have s1 := hg1.size
    clear ho1 hg1
    go_wp2_with (at_builtin; refine wpList_append_rd rfl _ _ rfl w.heap.size _ (List.replicate (2 * n) (0 : Int)).length (List.replicate (2 * n) 0) xs rfl O1.out _ rfl (R.out.below B1.out) (by rw [List.length_replicate]; omega) s1 ?_)
    intro v2 w2 ho2 hg2
    have B2 : Hid (Below w.heap.size w w2) := B1.out.grown hg2 s1 (fun i hi => by cases hi; exact Nat.le_refl _)
    have O2 : Hid (Own w2 w.heap.size v2 raw) := by rw [HW.out]; exact ho2
    clear ho2 hg2 O1
    obtain ⟨g, cap2, hv2, hg1, hgs, _⟩ := Own.open O2.out (by rw [HL.out]; omega)
    subst hv2
    go_wp2_with fail
    refine (l1Cut_calls _ raw _ O2.out.rd (by rw [HL.out]; omega)).mono ?_
    rintro e w3 ⟨v3, rfl, ho3, hb3⟩
    have R3 := hide ho3.rd
    have B3 := hide hb3
    clear ho3 hb3
    go_wp2_with fail
    refine (l4Generator_calls n _ (by omega)).mono ?_
    rintro e w4 ⟨v4, rfl, ho4, hb4⟩
    have R4 := hide ho4.rd
    have B4 := hide hb4
    clear ho4 hb4
    have s2 := B2.out.size
    have s3 := B3.out.size
    have s4 := B4.out.size
    go_wp2_with fail
    refine (sDivPoly_calls _ _ (cutL raw) (genI (2 * n)) _ (R3.out.below B4.out) R4.out).mono ?_
    rintro e w5 ⟨v5, v6, rfl, ho5, ho6, _, hb5⟩
    have R6 : Hid (Rd w5 v6 rest) := by rw [HR.out]; have := ho6.rd; rw [HW.out] at this; exact this
    have far6 : Hid (rest.length = 0 ∨ ∃ b cap, v6 = .slice (some ⟨b, 0, none⟩) rest.length cap ∧ g < b ∧ b < w5.heap.size ∧ ∀ i, i < rest.length → w5.cell? ⟨b, i, none⟩ = some (.int .i64 (rest.getD i 0))) := by
      by_cases h0 : rest.length = 0
      · exact .inl h0
      · right
        have e : (divR (cutL raw) (genI (2 * n))).2.1 = rest := by rw [HR.out, HW.out]; rfl
        rw [e] at ho6
        obtain ⟨b, c, h1, h2, h3, h4⟩ := Own.open ho6 (by omega)
        exact ⟨b, c, h1, by omega, h3, h4⟩
    have O5 := hide (((O2.out.below B3.out).below B4.out).below hb5)
    have B5 : Hid (Below w.heap.size w w5) := B2.out.trans ((B3.out.trans ((B4.out.mono s3).trans (hb5.mono (by omega)))).mono s2)
    have s5 := hb5.size
    clear ho5 ho6 hb5 O2
    obtain ⟨a6, c6, rfl, _, _, _⟩ := R6.out
    obtain ⟨N, hN⟩ : ∃ N, N = raw.length := ⟨_, rfl⟩
    rw [← hN]
    have HN := hide hN
    have O6 : Hid (w5.ownsRow w.heap.size 3 1 (.slice (some ⟨g, 0, none⟩) N cap2) N ((spl raw 0 (rest.take 0)).map (Value.int .i64))) := by
      have := O5.out
      unfold Own at this
      rw [← hN] at this
      have e : spl raw 0 (rest.take 0) = raw := by simp [spl]
      rw [e]
      exact this
    have hrN : rest.length ≤ N := by rw [hN]; exact HRL.out
    have hNb : N ≤ 30 := by rw [hN, HL.out]; omega
    have SL : Hid (∀ k, k ≤ rest.length → (spl raw 0 (rest.take k)).length = N) := fun k hk => by
      rw [spl_length _ _ _ (by rw [List.length_take]; have := HRL.out; omega), hN]
    clear hN O5
    go_wp2
    go_loopw [45] (fun vk wr => ∃ k : Nat, k ≤ rest.length ∧ vk = .int .i64 k ∧ wr.ownsRow w.heap.size 3 1 (.slice (some ⟨g, 0, none⟩) N cap2) N ((spl raw 0 (rest.take k)).map (Value.int .i64)) ∧ w5.grownBy wr (some g)) (fun vk _ => rest.length - (intOf vk).toNat)
    case atStart => exact ⟨0, Nat.zero_le _, rfl, O6.out, World.grownBy.refl _ _⟩
    case round =>
      obtain ⟨k, hk, rfl, ho, hg⟩ := hrel
      have O := hide ho
      have GG := hide hg
      clear ho hg
      by_cases hlt : k < rest.length
      · have hlt' : (k : Int) < (rest.length : Int) := by omega
        have hkN : (k : Int) < (N : Int) := by omega
        obtain ⟨b, rfl, hne, hb6, hc6⟩ : ∃ b, a6 = some ⟨b, 0, none⟩ ∧ g < b ∧ b < w5.heap.size ∧ ∀ i, i < rest.length → w5.cell? ⟨b, i, none⟩ = some (.int .i64 (rest.getD i 0)) := by
          rcases far6.out with h | ⟨b, c, hv, h⟩
          · omega
          · simp only [Value.slice.injEq] at hv
            exact ⟨b, hv.1, h⟩
        obtain ⟨x, hx⟩ : ∃ x, x = rest.getD k 0 := ⟨_, rfl⟩
        have hc1 : wr.cell? ⟨b, k, none⟩ = some (.int .i64 x) := by
          rw [hx, ← hc6 k hlt]
          unfold World.cell?
          rw [GG.out.block b hb6 (by simp; omega)]
        have X := hide hx
        have hcf : wr.frozen? ⟨g, k, none⟩ = false := O.out.frozenAt k
        obtain ⟨old, hc3⟩ : ∃ old, wr.cell? ⟨g, k, none⟩ = some old := by
          rw [O.out.cellAt k (by omega)]
          have := SL.out k hk
          exact ⟨_, List.getElem?_eq_getElem (by simp; omega)⟩
        have K := hide (O.out.stored k (.int .i64 x))
        clear hx hc6 hne
        go_wp2
        go_roundw
        case rel =>
          refine ⟨k + 1, by omega, by go_num, ?_, grownBy_trans GG.out K.out.2⟩
          have := K.out.1
          rw [← List.map_set, X.out, spl_step hlt HRL.out] at this
          rw [X.out]
          exact this
        case measure => simp [intOf]; omega
      · obtain rfl : k = rest.length := by omega
        have O1 : Hid (Own wr w.heap.size (.slice (some ⟨g, 0, none⟩) N cap2) (spl raw 0 (rest.take rest.length))) := by
          show World.ownsRow _ _ _ _ _ (spl raw 0 (rest.take rest.length)).length _
          rw [SL.out _ (Nat.le_refl _)]
          exact O.out
        have BB : Hid (Below w.heap.size w wr) := B5.out.grown GG.out (by omega) (fun i hi => by cases hi; exact hg1)
        clear O
        go_wp2
        go_ret2
        exact ⟨_, rfl, O1.out, BB.out⟩
end Gf
end Go.Proofs.YtogopakmebiomaaDoor
