/-
  The division of two polynomials: the program's DivPoly and its model's at every argument that can be read, call by call: both answer the same two lists, each of new memory of its own, and the same word. The program's table of rests must hold its seven numbers where the program's own function is called.
-/
import Derived.Test.YtogopakmebiomaaDoorDivR
import Derived.Test.YtogopakmebiomaaDoorMulPoly
import Derived.Test.YtogopakmebiomaaDoorSys
namespace Go.Proofs.YtogopakmebiomaaDoor
open Go.RowKit

/-- Two new slices of no block in common. -/
def Two (w w' : World) (v1 v2 : Value) (r1 r2 : List Int) : Prop :=
  Own w' w.heap.size v1 r1 ∧ Own w' w.heap.size v2 r2 ∧ (v1.ownBlock = none ∨ v1.ownBlock ≠ v2.ownBlock) ∧ Below w.heap.size w w'
theorem Two.nil1 {w w' : World} {v2 : Value} {r2 : List Int} (h : Own w' w.heap.size v2 r2) (hb : Below w.heap.size w w') : Two w w' (.slice none 0 0) v2 [] r2 := ⟨Gf.own_nil _ _, h, .inl rfl, hb⟩
theorem Sys.add2 {W w w' : World} {L : List (Value × List Int)} {v1 v2 : Value} {r1 r2 : List Int} (h : Sys W w L) (h2 : Two w w' v1 v2 r1 r2) : Sys W w' ((v2, r2) :: (v1, r1) :: L) := by
  obtain ⟨o1, o2, hd, hb⟩ := h2
  have s1 := h.add hb o1
  have s2 := h.add hb o2
  have hd' : v2.ownBlock = none ∨ v2.ownBlock ≠ v1.ownBlock := by
    rcases hd with hd | hd
    · cases e : v2.ownBlock with
      | none => exact .inl rfl
      | some k => right; rw [hd]; simp
    · exact .inr (fun e => hd e.symm)
  refine ⟨s1.below, ?_, ?_⟩
  · intro i u ys hi
    cases i with
    | zero => exact s2.own 0 u ys (by simpa using hi)
    | succ i => exact s1.own i u ys (by simpa using hi)
  · intro i j a as1 b bs hij hi hj
    cases i with
    | zero =>
      simp at hi
      obtain ⟨rfl, rfl⟩ := hi
      cases j with
      | zero => exact absurd rfl hij
      | succ j =>
        cases j with
        | zero => simp at hj; obtain ⟨rfl, rfl⟩ := hj; exact hd'
        | succ j => exact s2.apart 0 (j + 1) v2 r2 b bs (by omega) (by simp) (by simpa using hj)
    | succ i =>
      cases j with
      | zero =>
        simp at hj
        obtain ⟨rfl, rfl⟩ := hj
        cases i with
        | zero => simp at hi; obtain ⟨rfl, rfl⟩ := hi; exact hd
        | succ i => exact s2.apart (i + 1) 0 a as1 v2 r2 (by omega) (by simpa using hi) (by simp)
      | succ j => exact s1.apart i j a as1 b bs (fun e => hij (by rw [e])) (by simpa using hi) (by simpa using hj)

namespace Gf
set_option maxRecDepth 100000 in
set_option maxHeartbeats 1600000 in
theorem divPoly_no (pv qv : Value) (xs ys : List Int) (w : World) (hp : Rd w pv xs) (hq : Rd w qv ys) (h : ¬ (goodP xs = true ∧ goodP ys = true ∧ ys.length ≠ 0)) :
    Calls Tryd.prog 74 #[pv, qv] w fun e w' => e = .returned (.tuple #[.slice none 0 0, .slice none 0 0, .bool false]) ∧ w = w' := by
  have P := hide hp
  have Q := hide hq
  clear hp hq
  cases hgx : goodP xs with
  | false =>
    have G := hide hgx
    clear hgx h
    go_enter Tryd.func74, Tryd.ntmps74
    go_wp2_with (go_at_call 124; refine (isPoly_calls pv xs _ P.out).mono ?_; rw [G.out]; rintro e w' ⟨rfl, rfl⟩)
    go_ret3
    exact ⟨rfl, rfl⟩
  | true =>
    have G := hide hgx
    cases hgy : goodP ys with
    | false =>
      have G2 := hide hgy
      clear hgx hgy h
      go_enter Tryd.func74, Tryd.ntmps74
      go_wp2_with fail
      refine (isPoly_calls pv xs _ P.out).mono ?_
      rw [G.out]
      rintro e w' ⟨rfl, rfl⟩
      go_wp2_with fail
      refine (isPoly_calls qv ys _ Q.out).mono ?_
      rw [G2.out]
      rintro e w' ⟨rfl, rfl⟩
      go_wp2
      go_ret3
      exact ⟨rfl, rfl⟩
    | true =>
      have G2 := hide hgy
      have h0 : ys.length = 0 := by
        by_cases e : ys.length = 0
        · exact e
        · exact absurd ⟨hgx, hgy, e⟩ h
      obtain ⟨qa, qcap, rfl, _, _, _⟩ := Q.out
      have t1 : ((ys.length : Int) == 0) = true := by simp [List.eq_nil_of_length_eq_zero h0]
      clear hgx hgy h h0
      go_enter Tryd.func74, Tryd.ntmps74
      go_wp2_with fail
      refine (isPoly_calls pv xs _ P.out).mono ?_
      rw [G.out]
      rintro e w' ⟨rfl, rfl⟩
      go_wp2_with fail
      refine (isPoly_calls _ ys _ Q.out).mono ?_
      rw [G2.out]
      rintro e w' ⟨rfl, rfl⟩
      go_wp2
      go_ret3
      exact ⟨rfl, rfl⟩

set_option maxRecDepth 100000 in
set_option maxHeartbeats 1600000 in
theorem divPoly_short (pv qv : Value) (xs ys : List Int) (w : World) (hp : Rd w pv xs) (hq : Rd w qv ys) (hx : goodP xs = true) (hy : goodP ys = true) (h0 : ys.length ≠ 0) (h : xs.length < ys.length) :
    Calls Tryd.prog 74 #[pv, qv] w fun e w' => ∃ v2, e = .returned (.tuple #[.slice none 0 0, v2, .bool true]) ∧ Own w' w.heap.size v2 (cutL xs) ∧ Below w.heap.size w w' := by
  have P := hide hp
  have Q := hide hq
  have G := hide hx
  have G2 := hide hy
  have lx := goodP_len hx
  clear hp hq hx hy
  obtain ⟨pa, pcap, rfl, _, _, _⟩ := P.out
  obtain ⟨qa, qcap, rfl, _, _, _⟩ := Q.out
  have t1 : ((ys.length : Int) == 0) = false := by simp; intro e; simp [e] at h0
  have t2 : (xs.length : Int) < (ys.length : Int) := by omega
  go_enter Tryd.func74, Tryd.ntmps74
  go_wp2_with fail
  refine (isPoly_calls _ xs _ P.out).mono ?_
  rw [G.out]
  rintro e w' ⟨rfl, rfl⟩
  go_wp2_with fail
  refine (isPoly_calls _ ys _ Q.out).mono ?_
  rw [G2.out]
  rintro e w' ⟨rfl, rfl⟩
  go_wp2_with fail
  refine (without_calls _ xs _ P.out (by omega)).mono ?_
  rintro e w1 ⟨v2, rfl, ho, hb⟩
  have O := hide (And.intro ho hb)
  clear ho hb
  go_wp2
  go_ret3
  exact ⟨_, rfl, O.out.1, O.out.2⟩

set_option maxRecDepth 100000 in
set_option maxHeartbeats 3200000 in
theorem divPoly_yes (pv qv : Value) (xs ys : List Int) (w : World) (hT : Tab w) (hp : Rd w pv xs) (hq : Rd w qv ys) (hx : goodP xs = true) (hy : goodP ys = true) (h0 : ys.length ≠ 0) (h : ¬ xs.length < ys.length) :
    Calls Tryd.prog 74 #[pv, qv] w fun e w' => ∃ v1 v2, e = .returned (.tuple #[v1, v2, .bool true]) ∧
      Two w w' v1 v2 (ci (dv (nat xs) (nat ys) (xs.length - ys.length) (xs.length - ys.length + 1) (xs.length - ys.length + 1)).2) (cutL (ci (dv (nat xs) (nat ys) (xs.length - ys.length) (xs.length - ys.length + 1) (xs.length - ys.length + 1)).1)) := by
  have P := hide hp
  have Q := hide hq
  have T := hide hT
  have G := hide hx
  have G2 := hide hy
  have lx := goodP_len hx
  have GX := hide (goodP_mem hx)
  have GY := hide (goodP_mem hy)
  have hlast := goodP_all hy (ys.length - 1) (by omega)
  obtain ⟨m, hm⟩ : ∃ m, m = xs.length - ys.length := ⟨_, rfl⟩
  rw [← hm]
  have em : (xs.length : Int) - (ys.length : Int) = (m : Int) := by omega
  have em' : xs.length = m + ys.length := by omega
  have EM := hide em'
  have hmx : m + 1 ≤ xs.length := by omega
  clear hm em'
  obtain ⟨pa, pcap, rfl, _, _, _⟩ := P.out
  have hq' := hq
  obtain ⟨qa, qcap, rfl, _, _, h3⟩ := hq'
  clear hp hq hx hy hT
  rcases h3 with h3 | ⟨qb, qoff, rfl, hqs, hqc⟩
  · subst h3; simp at h0
  have hqc1 := hqc (ys.length - 1) (by omega)
  clear hqc
  obtain ⟨t, ht⟩ : ∃ t, t = (nat ys).getD (ys.length - 1) 0 := ⟨_, rfl⟩
  have htx : ys.getD (ys.length - 1) 0 = (t : Int) := by
    have := ci_getD (nat ys) (ys.length - 1)
    rw [ci_natp GY.out] at this
    rw [this, ht]
  have ht256 : t < 256 := by omega
  rw [htx] at hqc1
  have HTop := hide ht
  clear ht htx hlast
  have t1 : ((ys.length : Int) == 0) = false := by simp; intro e; simp [e] at h0
  have t2 : ¬ (xs.length : Int) < (ys.length : Int) := by omega
  have hly : 0 < ys.length := by omega
  have f1 : ((ys.length : Int) - 1).toNat = ys.length - 1 := by omega
  have f2 : (0 : Int) ≤ (ys.length : Int) - 1 := by omega
  have f3 : (ys.length : Int) - 1 < (ys.length : Int) := by omega
  have hinv := inv_lt t
  clear h0 h
  go_enter Tryd.func74, Tryd.ntmps74
  go_wp2_with fail
  refine (isPoly_calls _ xs _ P.out).mono ?_
  rw [G.out]
  rintro e w' ⟨rfl, rfl⟩
  go_wp2_with fail
  refine (isPoly_calls _ ys _ Q.out).mono ?_
  rw [G2.out]
  rintro e w' ⟨rfl, rfl⟩
  go_wp2_with (first
    | (at_make; refine wpList_make_ints rfl (.tmp 32) (.tmp 32) rfl w.heap.size _ _ xs.length rfl rfl (by omega) (by omega) (by omega) (Nat.le_refl _) ?_; intro w0 hown0 hgrow0)
    | (refine wpList_copy_fresh rfl _ _ rfl w.heap.size w.heap.size xs.length _ rfl hown0 _ rfl xs (by exact P.out.below ((Below.refl _ _).grown hgrow0 (Nat.le_refl _) (fun k h => by cases h))) (Nat.le_refl _) (Nat.le_refl _) (by unfold maxLen; omega) w.heap.size w ((Below.refl _ _).grown hgrow0 (Nat.le_refl _) (fun k h => by cases h)) (Nat.le_refl _) ?_; intro w1 hown1 hb1 hg1)
    | (at_make; refine wpList_make_ints rfl (.tmp 42) (.tmp 42) rfl w1.heap.size _ _ (m + 1) rfl rfl (by omega) (by omega) (by omega) (Nat.le_refl _) ?_; intro w2 hown2 hgrow2; have hqc2 : w2.cell? ⟨qb, qoff + (ys.length - 1), none⟩ = some (.int .i64 (t : Nat)) := ((hb1.grown hgrow2 hb1.size (fun k h => by cases h)).cell (p := ⟨qb, qoff + (ys.length - 1), none⟩) hqs).trans hqc1))
  have B2 := hide (hb1.grown hgrow2 hb1.size (fun k h => by cases h))
  have hlt1 : w.heap.size < w1.heap.size := (World.ownsRow.lt hown1 w.heap.size rfl).2
  have OL : Hid (w2.ownsRow w.heap.size 3 1 (.slice (some ⟨w.heap.size, 0, none⟩) xs.length xs.length) xs.length ((ci (dv (nat xs) (nat ys) m (m + 1) 0).1).map (Value.int .i64))) := by
    have h := World.ownsRow.kept hown1 hgrow2 (.inr (by simp [Value.ownBlock]))
    rw [List.take_length] at h
    show World.ownsRow _ _ _ _ _ _ ((ci (nat xs)).map _)
    rw [ci_natp GX.out]
    exact h
  have OQ : Hid (w2.ownsRow w1.heap.size 3 1 (.slice (some ⟨w1.heap.size, 0, none⟩) (m + 1) (m + 1)) (m + 1) ((ci (dv (nat xs) (nat ys) m (m + 1) 0).2).map (Value.int .i64))) := by
    have h := hown2
    unfold Own at h
    rw [List.length_replicate] at h
    have e : (ci (dv (nat xs) (nat ys) m (m + 1) 0).2).map (Value.int .i64) = (List.replicate (m + 1) (0 : Int)).map (Value.int .i64) := by simp [dv, ci]
    rw [e]
    exact h
  clear hown0 hgrow0 hown1 hb1 hg1 hown2 hgrow2
  refine (inv_calls _ _ (T.out.below B2.out) (by omega) (by omega)).mono ?_
  rintro e w3 ⟨rfl, rfl⟩
  go_wp2
  go_loopw [10] (fun vk wr => ∃ j : Nat, j ≤ m + 1 ∧ vk = .int .i64 ((m : Int) - (j : Int)) ∧
      wr.ownsRow w.heap.size 3 1 (.slice (some ⟨w.heap.size, 0, none⟩) xs.length xs.length) xs.length ((ci (dv (nat xs) (nat ys) m (m + 1) j).1).map (Value.int .i64)) ∧
      wr.ownsRow w1.heap.size 3 1 (.slice (some ⟨w1.heap.size, 0, none⟩) (m + 1) (m + 1)) (m + 1) ((ci (dv (nat xs) (nat ys) m (m + 1) j).2).map (Value.int .i64)) ∧ Below w.heap.size w wr) (fun vk _ => (intOf vk + 1).toNat)
  case atStart => exact ⟨0, Nat.zero_le _, by go_num, OL.out, OQ.out, B2.out⟩
  case round =>
    obtain ⟨j, hj, rfl, hol, hoq, hb⟩ := hrel
    have L := hide hol
    have Qo := hide hoq
    have B := hide hb
    clear hol hoq hb
    by_cases hjm : j ≤ m
    · obtain ⟨k, hk⟩ : ∃ k, m = j + k := ⟨m - j, by omega⟩
      have hkm : m - j = k := by omega
      have e0 : (m : Int) - (j : Int) = (k : Int) := by omega
      rw [e0]
      have hk1 : k < m + 1 := by omega
      have hkx : k + ys.length ≤ xs.length := by have := EM.out; omega
      have HK := hide hkm
      clear hk hkm e0
      obtain ⟨y, hy⟩ : ∃ y, y = (dv (nat xs) (nat ys) m (m + 1) j).1.getD (k + ys.length - 1) 0 := ⟨_, rfl⟩
      have hy256 : y < 256 := by rw [hy]; exact dv_lt1 (nat_ltp GX.out) j _
      have hc1 := own_cell L.out (k + ys.length - 1) (by rw [dv_len1, nat_length]; omega)
      rw [← hy] at hc1
      have hc2 := Qo.out.frozenAt k
      have hc3 := own_cell Qo.out k (by rw [dv_len2]; exact hk1)
      obtain ⟨old, hold⟩ : ∃ old : Int, old = ((dv (nat xs) (nat ys) m (m + 1) j).2.getD k 0 : Nat) := ⟨_, rfl⟩
      rw [← hold] at hc3
      have hd : Hid (mul y (inv t) = dq (dv (nat xs) (nat ys) m (m + 1) j).1 (nat ys) k) := by
        show mul y (inv t) = _
        unfold dq
        rw [nat_length, ← hy, HTop.out]
      have hd256 : mul y (inv t) < 256 := mul_lt hy256
      clear hy hold
      have g1 : ((k : Int) + (ys.length : Int) - 1).toNat = k + ys.length - 1 := by omega
      have g2 : (0 : Int) ≤ (k : Int) + (ys.length : Int) - 1 := by omega
      have g3 : (k : Int) + (ys.length : Int) - 1 < (xs.length : Int) := by omega
      have g4 : (k : Int) < (m : Int) + 1 := by omega
      have Tr := hide (T.out.below B.out)
      obtain ⟨d, hdd⟩ : ∃ d, d = mul y (inv t) := ⟨_, rfl⟩
      have hdl : d < 256 := by rw [hdd]; exact hd256
      have HD := hide hdd
      clear hdd hd256
      go_wp2_with fail
      refine (mulE_calls _ _ _ Tr.out (by omega) (by omega) (by omega) (by omega)).mono ?_
      simp only [Int.toNat_natCast]
      rw [← HD.out]
      rintro e w4 ⟨rfl, rfl⟩
      go_wp2_with fail
      have hne : (Value.slice (some ⟨w.heap.size, 0, none⟩) xs.length xs.length).ownBlock ≠ some w1.heap.size := by simp [Value.ownBlock]; omega
      have L1 := hide (ownsRow_setCell_other L.out (a := ⟨w1.heap.size, k, none⟩) hne (.int .i64 (d : Nat)))
      have Q1 : Hid ((wr.setCell ⟨w1.heap.size, k, none⟩ (.int .i64 (d : Nat))).ownsRow w1.heap.size 3 1 (.slice (some ⟨w1.heap.size, 0, none⟩) (m + 1) (m + 1)) (m + 1) ((ci (dv (nat xs) (nat ys) m (m + 1) (j + 1)).2).map (Value.int .i64))) := by
        have h := (Qo.out.stored k (.int .i64 (d : Nat))).1
        rw [← List.map_set, ci_set] at h
        have e : (dv (nat xs) (nat ys) m (m + 1) (j + 1)).2 = (dv (nat xs) (nat ys) m (m + 1) j).2.set k d := by
          simp only [dv]
          rw [HK.out, HD.out, hd.out]
        rw [e]
        exact h
      have B1 : Hid (Below w.heap.size w (wr.setCell ⟨w1.heap.size, k, none⟩ (.int .i64 (d : Nat)))) := B.out.setCell (Nat.le_of_lt hlt1) _
      have keep : Hid (∀ w', (wr.setCell ⟨w1.heap.size, k, none⟩ (.int .i64 (d : Nat))).grownBy w' (some w.heap.size) → Below w.heap.size w w') := fun w' hg => B1.out.grown hg B1.out.size (fun k h => by simp at h; omega)
      refine (addMultiple_calls _ _ (dv (nat xs) (nat ys) m (m + 1) j).1 (nat ys) _ _ w.heap.size _ (fun w' hg => T.out.below (keep.out w' hg)) ?o1 ?q1 (by omega) (by omega) (by omega) ?f1 ?f2 (dv_lt1 (nat_ltp GX.out) j) (nat_ltp GY.out) ?f3).mono ?_
      case o1 =>
        show World.ownsRow _ _ _ _ _ (ci _).length _
        rw [ci_length, dv_len1, nat_length]
        exact L1.out
      case q1 =>
        intro w' hg
        rw [ci_natp GY.out]
        exact Q.out.below (keep.out w' hg)
      case f1 => rw [nat_length, dv_len1, nat_length]; omega
      case f2 => rw [dv_len1, nat_length]; omega
      case f3 => rw [dv_len1, nat_length]; omega
      rintro e w5 ⟨rfl, hown5, hg5⟩
      have L5 : Hid (w5.ownsRow w.heap.size 3 1 (.slice (some ⟨w.heap.size, 0, none⟩) xs.length xs.length) xs.length ((ci (dv (nat xs) (nat ys) m (m + 1) (j + 1)).1).map (Value.int .i64))) := by
        have h := hown5
        unfold Own at h
        rw [ci_length, amTo_length, dv_len1, nat_length, nat_length, Int.toNat_natCast, Int.toNat_natCast] at h
        have e : (dv (nat xs) (nat ys) m (m + 1) (j + 1)).1 = amTo (dv (nat xs) (nat ys) m (m + 1) j).1 (nat ys) d k ys.length := by
          simp only [dv]
          rw [HK.out, HD.out, hd.out, nat_length]
        rw [e]
        exact h
      have Q5 := hide (World.ownsRow.kept Q1.out hg5 (.inr (by simp [Value.ownBlock]; omega)))
      have B5 := hide (keep.out w5 hg5)
      clear hown5 hg5
      go_wp2
      go_roundw
      case rel => exact ⟨j + 1, by omega, int_eq (by have := HK.out; omega), L5.out, Q5.out, B5.out⟩
      case measure => simp [intOf]
    · obtain rfl : j = m + 1 := by omega
      have e0 : (m : Int) - ((m + 1 : Nat) : Int) = -1 := by omega
      rw [e0]
      have hL : Own wr w.heap.size (.slice (some ⟨w.heap.size, 0, none⟩) xs.length xs.length) (ci (dv (nat xs) (nat ys) m (m + 1) (m + 1)).1) := by
        show World.ownsRow _ _ _ _ _ (ci _).length _
        rw [ci_length, dv_len1, nat_length]
        exact L.out
      have hQ : Own wr w1.heap.size (.slice (some ⟨w1.heap.size, 0, none⟩) (m + 1) (m + 1)) (ci (dv (nat xs) (nat ys) m (m + 1) (m + 1)).2) := by
        show World.ownsRow _ _ _ _ _ (ci _).length _
        rw [ci_length, dv_len2]
        exact Qo.out
      have HL := hide hL
      have HQ := hide hQ
      have hqlt : w1.heap.size < wr.heap.size := (World.ownsRow.lt Qo.out w1.heap.size rfl).2
      clear hL hQ
      go_wp2_with fail
      refine (without_calls _ _ _ HL.out.rd (by rw [ci_length, dv_len1, nat_length]; omega)).mono ?_
      rintro e w6 ⟨v2, rfl, ho6, hb6⟩
      have R : Hid (Two w w6 (.slice (some ⟨w1.heap.size, 0, none⟩) (m + 1) (m + 1)) v2 (ci (dv (nat xs) (nat ys) m (m + 1) (m + 1)).2) (cutL (ci (dv (nat xs) (nat ys) m (m + 1) (m + 1)).1))) := by
        refine ⟨Own.mono (Own.below HQ.out hb6) (Nat.le_of_lt hlt1), Own.mono ho6 B.out.size, .inr ?_, B.out.trans (hb6.mono B.out.size)⟩
        intro e
        have := (ho6.lt w1.heap.size (by rw [← e]; rfl)).1
        omega
      clear ho6 hb6
      go_wp2
      go_ret3
      exact ⟨_, _, rfl, R.out⟩
end Gf
end Go.Proofs.YtogopakmebiomaaDoor
