/-
  Blocks, elements and bodies: the program's blockOf, elementsOf, bodyOf, and these for each of a list. Each contract says what it asks. Disks: what the laws' own small functions do with them (copy, compare, measure, mark, look whether the marks are held), call by call. Each contract says what it asks. Disks copied, marked, and whether the marks are held, call by call. Each contract says what it asks. A disk handed over: a copy of the call's own, call by call. Each contract says what it asks.
-/
import Derived.Test.YtbgadbokejaomaaGreatDoorWriteStripeB7
import Derived.Test.YtbgadbokejaomaaGreatDoorWriteStripeB9
import Derived.Test.YtbgadbokejaomaaGreatDoorWriteStripeB13
import Derived.Test.YtbgadbokejaomaaGreatDoorWriteStripeB6
namespace Go.Proofs.YtbgadbokejaomaaGreatDoor
open Go.RowKit
open Gf (ci nat)
set_option linter.unusedVariables false

/-- A block: a byte of the text's length, the text, noughts: 48 in all. -/
def blk (S : ByteArray) : List Nat := S.size :: (bs S ++ List.replicate (47 - S.size) 0)
theorem blk_length {S : ByteArray} (h : S.size ≤ 47) : (blk S).length = 48 := by
  unfold blk
  rw [List.length_cons, List.length_append, bs_length, List.length_replicate]
  omega
theorem blk_small {S : ByteArray} (h : S.size ≤ 47) : ∀ b ∈ blk S, b < 256 := by
  intro b hb
  unfold blk at hb
  rcases List.mem_cons.1 hb with hb | hb
  · omega
  · rcases List.mem_append.1 hb with hb | hb
    · exact bs_lt S b hb
    · simp only [List.mem_replicate] at hb
      omega
theorem rep0 (c : Nat) : (⟨(Go.Lib.repeatL (⟨#[0]⟩ : ByteArray).data.toList c).toArray⟩ : ByteArray) = ofN (List.replicate c 0) := by
  have := Go.Lib.repeatL_replicate 0 1 c
  simp only [List.replicate_one, Nat.mul_one] at this
  unfold ofN
  congr 1
  show (Go.Lib.repeatL [0] c).toArray = _
  rw [this, List.map_replicate]
  rfl
theorem RdT.slB {w : World} {v : Value} {xs : List ByteArray} (h : RdT w v xs) : ∃ a cap, v = .slice a xs.length cap ∧ xs.length ≤ cap := by
  obtain ⟨a, cap, rfl, h1, _⟩ := h
  exact ⟨a, cap, rfl, h1⟩
theorem RdT.cellB {w : World} {a : Option Addr} {n cap : Nat} {xs : List ByteArray} (h : RdT w (.slice a n cap) xs) (i : Nat) (hi : i < xs.length) : ∃ b off, a = some ⟨b, off, none⟩ ∧ w.cell? ⟨b, off + i, none⟩ = some (.string (xs.getD i ⟨#[]⟩)) := by
  obtain ⟨a', cap', e, h1, h2, h4, h3⟩ := h
  simp only [Value.slice.injEq] at e
  obtain ⟨rfl, _, rfl⟩ := e
  rcases h3 with h3 | ⟨b, off, rfl, hlt, hc⟩
  · subst h3; simp at hi
  · exact ⟨b, off, rfl, hc i hi⟩
/-- What is laid so far. -/
def padU (us : List Value) (n : Nat) : List Value := us ++ List.replicate (n - us.length) nilRow
theorem padU_length (us : List Value) (n : Nat) (h : us.length ≤ n) : (padU us n).length = n := by simp [padU]; omega
theorem padU_set (us : List Value) (n : Nat) (u : Value) (h : us.length < n) : (padU us n).set us.length u = padU (us ++ [u]) n := by
  unfold padU
  obtain ⟨k, hk⟩ : ∃ k, n - us.length = k + 1 := ⟨n - us.length - 1, by omega⟩
  have hk2 : n - (us ++ [u]).length = k := by simp; omega
  rw [hk, hk2, List.replicate_succ, List.set_append_right _ _ (Nat.le_refl _), Nat.sub_self, List.set_cons_zero, List.append_assoc]
  rfl

set_option maxRecDepth 100000 in
set_option maxHeartbeats 800000 in
theorem blockOf_calls (S : ByteArray) (w : World) (hS : S.size ≤ 47) :
    Calls Tryz.prog 142 #[.string S] w fun e w' => e = .returned (.string (ofN (blk S))) ∧ Below w.heap.size w w' := by
  have B0 := hide (below_box w (.cells #[.int .u8 (S.size : Int)] 5))
  have hbt := byte_text S.size (by omega) w
  have e1 : ofN [S.size] ++ S = ofN (S.size :: bs S) := by
    have := ofN_append [S.size] (bs S)
    rw [ofN_bs] at this
    exact this
  have RP := hide (fun W => Tryz.strings_Repeat ⟨#[0]⟩ (47 - S.size) W (by omega) (by show 1 * _ ≤ _; omega))
  have E5 : Hid ((47 : Int) - (S.size : Int) = ((47 - S.size : Nat) : Int)) := by show _ = _; omega
  have hadd := run_string_add_sum (P := Tryz.prog) (w := w.alloc (.cells #[.int .u8 (S.size : Int)] 5)) (ofN [S.size]) S (by rw [ofN_size]; simp; omega)
  rw [e1] at hadd
  clear e1
  go_enter Tryz.func142, Tryz.ntmps142
  go_wp2_with fail
  rw [E5.out]
  refine (RP.out _).mono ?_
  rintro e w1 ⟨rfl, q⟩
  rw [rep0]
  have B1 := hide (B0.out.trans (q.mono (by simp)))
  clear q hadd hbt
  have hadd2 := run_string_add_sum (P := Tryz.prog) (w := w1) (ofN (S.size :: bs S)) (ofN (List.replicate (47 - S.size) 0)) (by rw [ofN_size, ofN_size, List.length_cons, List.length_replicate, bs_length]; omega)
  rw [ofN_append] at hadd2
  go_wp2
  go_ret
  exact ⟨rfl, B1.out⟩

set_option maxRecDepth 100000 in
set_option maxHeartbeats 800000 in
theorem elementsOf_calls (S : ByteArray) (w : World) (hS : S.size ≤ 4096) :
    Calls Tryz.prog 145 #[.string S] w fun e w' => ∃ v', e = .returned v' ∧ Own w' w.heap.size v' (ci (bs S)) ∧ Below w.heap.size w w' := by
  have hl : (ci (bs S)).length = S.size := by rw [Gf.ci_length, bs_length]
  have HL := hide hl
  clear hl
  go_enter Tryz.func145, Tryz.ntmps145
  go_wp2_with (at_make; refine wpList_make_ints rfl _ _ rfl w.heap.size _ _ S.size rfl rfl (by omega) (by omega) (by omega) (Nat.le_refl _) ?_)
  intro w0 ho0 hg0
  have hb0 : Below w.heap.size w w0 := (Below.refl _ _).grown hg0 (Nat.le_refl _) (fun k h => by cases h)
  have O0 := hide ho0
  have B0 := hide hb0
  clear ho0 hg0 hb0
  go_wp2
  go_loopw [4, 10] (fun _ vi wr => ∃ k : Nat, k ≤ S.size ∧ vi = .int .i64 k ∧ Own wr w.heap.size (.slice (some ⟨w.heap.size, 0, none⟩) S.size S.size) (cpTo (ci (bs S)) k) ∧ Below w.heap.size w wr) (fun _ vi _ => S.size - (intOf vi).toNat)
  case atStart =>
    refine ⟨0, Nat.zero_le _, rfl, ?_, B0.out⟩
    rw [cpTo_zero, HL.out]
    exact O0.out
  case round =>
    obtain ⟨k, hk, rfl, ho, hb⟩ := hrel
    by_cases hlt : k < S.size
    · have hlt' : (k : Int) < (S.size : Int) := by omega
      have hcl : (cpTo (ci (bs S)) k).length = S.size := by rw [cpTo_length _ k (by rw [HL.out]; exact hk), HL.out]
      obtain ⟨hfz, hcell⟩ := ho.at k (by rw [hcl]; exact hlt)
      obtain ⟨old, hold⟩ : ∃ o, o = (cpTo (ci (bs S)) k).getD k 0 := ⟨_, rfl⟩
      rw [← hold] at hcell
      obtain ⟨byt, hbz⟩ : ∃ byt, byt = S[k].toNat := ⟨_, rfl⟩
      have hb256 : byt < 256 := by rw [hbz]; exact (S[k]).toNat_lt
      have hbyt : byt = (bs S).getD k 0 := by rw [hbz]; exact (bs_getD S k hlt).symm
      have hbz' := hbz.symm
      have hst : (cpTo (ci (bs S)) k).set k (byt : Int) = cpTo (ci (bs S)) (k + 1) := by
        have := cpTo_step (ci (bs S)) k (by rw [HL.out]; exact hlt)
        rw [Gf.ci_getD, ← hbyt] at this
        exact this
      have W := hide (ho.put k (byt : Int))
      have ST := hide hst
      have B := hide hb
      clear hold ho hb hst hcl hbyt hbz
      go_wp2
      go_roundw
      case rel =>
        refine ⟨k + 1, by omega, by go_num, ?_, B.out.setCell (Nat.le_refl _) _⟩
        have := W.out.1
        rw [ST.out] at this
        exact this
      case measure => simp [intOf]; omega
    · obtain rfl : k = S.size := by omega
      have h := ho
      have e := cpTo_end (ci (bs S))
      rw [HL.out] at e
      rw [e] at h
      have O := hide h
      have B := hide hb
      clear ho hb h e
      go_wp2
      go_ret
      exact ⟨_, rfl, O.out, B.out⟩

set_option maxRecDepth 100000 in
set_option maxHeartbeats 800000 in
theorem bodyOf_calls (v : Value) (l : List Nat) (w : World) (h : Rd w v (ci l)) (hl : ∀ b ∈ l, b < 256) (hn : l.length ≤ 4096) :
    Calls Tryz.prog 147 #[v] w fun e w' => e = .returned (.string (ofN l)) ∧ Below w.heap.size w w' := by
  obtain ⟨a, cap, hv, m1, m2, m3⟩ := h
  rw [Gf.ci_length] at hv m3
  subst hv
  have M3 := hide m3
  have HL := hide hl
  clear m1 m2 m3 hl
  go_enter Tryz.func147, Tryz.ntmps147
  go_wp2_with (at_make; refine wpList_make_bytes rfl _ _ rfl w.heap.size _ _ l.length rfl rfl (by omega) (by omega) (by omega) (Nat.le_refl _) ?_)
  intro w2 hown hgrow
  have Z2 := hide (zrow_made hown)
  have B2 := hide (grown_none hgrow)
  clear hown hgrow
  go_wp2
  go_loopw [4, 5, 11] (fun _ _ vi wr => ∃ k : Nat, k ≤ l.length ∧ vi = .int .i64 k ∧ ZRow wr w.heap.size (l.take k ++ List.replicate (l.length - k) 0) ∧ Below w.heap.size w wr) (fun _ _ vi _ => l.length - (intOf vi).toNat)
  case atStart => exact ⟨0, Nat.zero_le _, rfl, by simpa using Z2.out, B2.out⟩
  case round =>
    obtain ⟨k, hk, rfl, hz, hb⟩ := hrel
    have HB := hide hb
    have HZ := hide hz
    by_cases hlt : k < l.length
    · have hlt' : (k : Int) < (l.length : Int) := by omega
      rcases M3.out with h3 | ⟨b, off, rfl, hbs, hc⟩
      · have : l = [] := by simpa [ci] using h3
        rw [this] at hlt
        simp at hlt
      have hck : wr.cell? ⟨b, off + k, none⟩ = some (.int .i64 ((l.getD k 0 : Nat) : Int)) := by
        rw [← Gf.ci_getD]
        exact (hb.cell (p := ⟨b, off + k, none⟩) hbs).trans (hc k hlt)
      have hx256 : l.getD k 0 < 256 := by
        rw [List.getD_eq_getElem?_getD, List.getElem?_eq_getElem hlt]
        exact HL.out _ (List.getElem_mem hlt)
      have hst : (l.take k ++ List.replicate (l.length - k) 0).set k (l.getD k 0) = l.take (k + 1) ++ List.replicate (l.length - (k + 1)) 0 := by
        obtain ⟨n, hn'⟩ : ∃ n, l.length - k = n + 1 := ⟨l.length - k - 1, by omega⟩
        have hn2 : l.length - (k + 1) = n := by omega
        rw [hn', hn2, List.replicate_succ, List.set_append_right _ _ (by simp; omega), List.take_succ_eq_append_getElem hlt, List.append_assoc]
        have e2 : k - (l.take k).length = 0 := by simp; omega
        rw [e2, List.set_cons_zero, List.getD_eq_getElem?_getD, List.getElem?_eq_getElem hlt]
        rfl
      have c0 := hz.cell k (by simp; omega)
      have f0 := hz.frozen k
      have ST := hide hst
      generalize l.getD k 0 = x at hck hx256 ST
      have SZ := hide (HZ.out.set k x)
      generalize (l.take k ++ List.replicate (l.length - k) 0).getD k 0 = old at c0
      clear hc hz hb hst HZ
      go_wp2
      go_roundw
      case rel =>
        refine ⟨k + 1, by omega, by go_num, ?_, HB.out.setCell (Nat.le_refl _) _⟩
        have := SZ.out
        rw [ST.out] at this
        exact this
      case measure => simp [intOf]; omega
    · obtain rfl : k = l.length := by omega
      have hz2 : ZRow wr w.heap.size l := by simpa using hz
      have hcv := hz2.conv (n := l.length) (cap := l.length) HL.out (Nat.le_refl _)
      rw [List.take_of_length_le (Nat.le_refl _)] at hcv
      clear hz hz2 hb HZ
      go_wp2
      go_ret
      exact ⟨rfl, HB.out⟩

set_option maxRecDepth 100000 in
set_option maxHeartbeats 1600000 in
theorem eachElems_calls (v : Value) (xs : List ByteArray) (w : World) (h : RdT w v xs) (hz : ∀ i, i < xs.length → (xs.getD i ⟨#[]⟩).size ≤ 4096) (hn : xs.length ≤ 4096) :
    Calls Tryz.prog 144 #[v, .func (.func 145) #[] #[]] w fun e w' => ∃ v', e = .returned v' ∧ RdM w' v' (xs.map (fun s : ByteArray => ci (bs s))) ∧ Below w.heap.size w w' := by
  have R := hide h
  have SZ := hide hz
  obtain ⟨m, hm⟩ : ∃ m, m = xs.map (fun s : ByteArray => ci (bs s)) := ⟨_, rfl⟩
  have ml : m.length = xs.length := by rw [hm, List.length_map]
  have mg : ∀ k, k < xs.length → m.getD k [] = (fun s : ByteArray => ci (bs s)) (xs.getD k ⟨#[]⟩) := fun k hk => by
    rw [hm]
    simp only [List.getD_eq_getElem?_getD]
    rw [List.getElem?_map, List.getElem?_eq_getElem hk]
    rfl
  rw [← hm]
  have ML := hide ml
  have MG := hide mg
  obtain ⟨a, cap, rfl, m1⟩ := h.slB
  clear h hm ml mg m1
  go_enter Tryz.func144, Tryz.ntmps144
  go_wp2_with (at_make; refine wpList_make_rows rfl _ _ rfl _ _ xs.length rfl rfl (by omega) (by omega) (by omega) ?_)
  intro w0 hm0 hg0
  have M0 := hide hm0.head
  have B0 := hide ((Below.refl w.heap.size w).grown hg0 (Nat.le_refl _) (fun k h => by cases h))
  clear hm0 hg0
  go_wp2
  go_loopw [6, 7, 13] (fun _ _ vi wr => ∃ us : List Value, us.length ≤ xs.length ∧ vi = .int .i64 us.length ∧ wr.ownsRow w.heap.size 27 1 (.slice (some ⟨w.heap.size, 0, none⟩) xs.length xs.length) xs.length (padU us xs.length) ∧ (∀ i, i < us.length → Own wr (w.heap.size + 1) (us.getD i nilRow) (m.getD i [])) ∧ Below w.heap.size w wr) (fun _ _ vi _ => xs.length - (intOf vi).toNat)
  case atStart =>
    refine ⟨[], Nat.zero_le _, rfl, ?_, fun i hi => by simp at hi, B0.out⟩
    have := M0.out
    rw [List.length_replicate] at this
    exact this
  case round =>
    obtain ⟨us, hk, rfl, ho, hus, hb⟩ := hrel
    have O := hide ho
    have US := hide hus
    have B := hide hb
    clear ho hus hb
    by_cases hlt : us.length < xs.length
    · have hlt' : (us.length : Int) < (xs.length : Int) := by omega
      have hd1 : w.heap.size + 1 ≤ wr.heap.size := (World.ownsRow.lt O.out w.heap.size rfl).2
      obtain ⟨gb, off, rfl, hc⟩ := (R.out.below B.out).cellB us.length hlt
      have G := hide (MG.out us.length hlt)
      have hsz := SZ.out us.length hlt
      generalize xs.getD us.length ⟨#[]⟩ = z at hc G hsz
      go_wp2_with fail
      refine (elementsOf_calls z _ hsz).mono ?_
      rintro e w1 ⟨x, rfl, hx, q⟩
      rw [← G.out] at hx
      have X := hide hx
      obtain ⟨xa, xc, rfl⟩ := row_slice hx
      have O1 := hide (ownsRow_below O.out q)
      have B1 := hide (B.out.trans (q.mono B.out.size))
      have US1 : Hid (∀ i, i < us.length → Own w1 (w.heap.size + 1) (us.getD i nilRow) (m.getD i [])) := fun i hi => (US.out i hi).below q
      clear hx q hc
      generalize hxn : (m.getD us.length []).length = xn at *
      have XN := hide hxn
      clear hxn
      have hpl : us.length < (padU us xs.length).length := by rw [padU_length _ _ hk]; exact hlt
      have hc2 : w1.frozen? ⟨w.heap.size, us.length, none⟩ = false := O1.out.frozenAt us.length
      obtain ⟨old, hc3⟩ : ∃ old, w1.cell? ⟨w.heap.size, us.length, none⟩ = some old := by
        rw [O1.out.cellAt us.length (by omega)]
        exact ⟨_, List.getElem?_eq_getElem hpl⟩
      have ST := hide (O1.out.stored us.length (.slice xa xn xc))
      clear O US G
      go_wp2
      go_roundw
      case rel =>
        refine ⟨us ++ [.slice xa xn xc], by simp; omega, by simp, ?_, fun i hi => ?_, B1.out.setCell (Nat.le_refl _) _⟩
        · have := ST.out.1
          rw [padU_set us xs.length _ hlt] at this
          exact this
        · have kept : ∀ (u : Value) (l : List Int), Own w1 (w.heap.size + 1) u l → Own (w1.setCell ⟨w.heap.size, us.length, none⟩ (.slice xa xn xc)) (w.heap.size + 1) u l := fun u l hu => World.ownsRow.kept hu ST.out.2 (by
            cases hb : u.ownBlock with
            | none => exact .inl rfl
            | some z =>
              right
              have := (World.ownsRow.lt hu z hb).1
              intro e
              simp only [Option.some.injEq] at e
              omega)
          by_cases e : i < us.length
          · have : (us ++ [Value.slice xa xn xc]).getD i nilRow = us.getD i nilRow := by simp only [List.getD_eq_getElem?_getD]; rw [List.getElem?_append_left e]
            rw [this]
            exact kept _ _ (US1.out i e)
          · have e2 : i = us.length := by simp at hi; omega
            subst e2
            have : (us ++ [Value.slice xa xn xc]).getD us.length nilRow = .slice xa xn xc := by simp
            rw [this]
            exact kept _ _ (Own.mono X.out hd1)
      case measure => simp [intOf]; omega
    · have e : us.length = xs.length := by omega
      go_wp2
      go_ret
      refine ⟨_, rfl, ?_, B.out⟩
      have ho := O.out
      have ep : padU us xs.length = us := by unfold padU; rw [show xs.length - us.length = 0 by omega, List.replicate_zero, List.append_nil]
      rw [ep] at ho
      have hc : xs.length ≤ maxLen := by unfold maxLen; omega
      have hlt : w.heap.size < wr.heap.size := (World.ownsRow.lt ho w.heap.size rfl).2
      refine ⟨some ⟨w.heap.size, 0, none⟩, xs.length, by rw [ML.out]; rfl, by rw [ML.out]; exact Nat.le_refl _, ⟨hc, fun h => by cases h⟩, .inr ⟨w.heap.size, 0, rfl, hlt, fun i hi => ?_⟩⟩
      rw [ML.out] at hi
      refine ⟨us.getD i nilRow, ?_, (US.out i (by omega)).rd⟩
      rw [Nat.zero_add, World.ownsRow.cellAt ho i (by omega), List.getD_eq_getElem?_getD, List.getElem?_eq_getElem (by omega)]
      rfl

end Go.Proofs.YtbgadbokejaomaaGreatDoor

namespace Go.Proofs.YtbgadbokejaomaaGreatDoor
open Go.RowKit
set_option linter.unusedVariables false

set_option maxRecDepth 100000 in
set_option maxHeartbeats 400000 in
theorem szStringS_any (v : Value) (xs : List ByteArray) (l : Int) (w : World) (h : RdT w v xs) (hl0 : 0 ≤ l) (hl1 : l ≤ 1048576) :
    Calls Tryz.prog 13 #[v, .int .i64 l] w fun e w' => (∃ r : Int, e = .returned (.int .i64 r) ∧ (r < 0 ∨ (0 ≤ r ∧ r ≤ 1048576 ∧ xs.length ≤ 1048576))) ∧ w = w' := by
  obtain ⟨a, cap, rfl, h1, h2, h4, h3⟩ := h
  have hm : xs.length ≤ maxLen := by omega
  unfold maxLen at hm
  have H3 := hide h3
  have H4 := hide h4
  clear h3 h4 h2 h1
  by_cases hn : (xs.length : Int) ≤ l
  case neg =>
    have hn' : l - (xs.length : Int) < 0 := by omega
    go_enter Tryz.func13, Tryz.ntmps13
    go_wp2
    go_ret
    exact ⟨⟨-1, rfl, .inl (by decide)⟩, rfl⟩
  have hn' : ¬ l - (xs.length : Int) < 0 := by omega
  go_enter Tryz.func13, Tryz.ntmps13
  go_wp2
  go_loop [1, 5] (fun vl vi => ∃ (k : Nat) (l : Int), k ≤ xs.length ∧ vi = .int .i64 k ∧ vl = .int .i64 l ∧ 0 ≤ l ∧ l ≤ 1048576) (fun _ vi => xs.length - (intOf vi).toNat)
  case atStart => exact ⟨0, _, Nat.zero_le _, rfl, rfl, by omega, by omega⟩
  case round =>
    obtain ⟨k, l2, hk, rfl, rfl, hl0, hl1⟩ := hrel
    by_cases hlt : k < xs.length
    · rcases H3.out with h3 | ⟨b, off, rfl, hbs, hc⟩
      · subst h3; simp at hlt
      have hc1 := hc k hlt
      have hz : (xs.getD k ⟨#[]⟩).size ≤ maxLen := by
        apply H4.out
        rw [List.getD_eq_getElem?_getD, List.getElem?_eq_getElem hlt]
        exact List.getElem_mem hlt
      unfold maxLen at hz
      clear hc
      generalize xs.getD k ⟨#[]⟩ = z at hc1 hz
      by_cases hle : (z.size : Int) ≤ l2
      · have t1 : ¬ l2 - (z.size : Int) < 0 := by omega
        go_wp2
        go_round
        case rel => exact ⟨k + 1, _, by omega, by go_num, rfl, by omega, by omega⟩
        case measure => simp [intOf]; omega
      · have t1 : l2 - (z.size : Int) < 0 := by omega
        go_wp2
        go_ret
        exact ⟨⟨-1, rfl, .inl (by decide)⟩, rfl⟩
    · obtain rfl : k = xs.length := by omega
      go_wp2
      go_ret
      exact ⟨⟨l2, rfl, Or.inr ⟨hl0, hl1, by omega⟩⟩, rfl⟩

/-- What a disk's measure tells. -/
def SzD (P H : List ByteArray) (B : List Bool) : Prop := P.length ≤ 1048576 ∧ H.length ≤ 1048576 ∧ B.length ≤ 1048576

set_option maxRecDepth 100000 in
set_option maxHeartbeats 800000 in
theorem szDisk_calls (p h b : Value) (P H : List ByteArray) (B : List Bool) (w : World) (hp : RdT w p P) (hh : RdT w h H) (hb : RdZ w b B) :
    Calls Tryz.prog 46 #[.agg #[p, h, b], .int .i64 1048576] w fun e w' => (∃ r : Int, e = .returned (.int .i64 r) ∧ (r < 0 ∨ (0 ≤ r ∧ r ≤ 1048576 ∧ SzD P H B))) ∧ Below w.heap.size w w' := by
  have b0 := below_box w (.cells #[p, h, b] 37)
  have RP := hide (hp.below b0)
  have RH := hide (hh.below b0)
  have RB := hide (hb.below b0)
  clear hp hh hb
  have C : Hid (BoxAt _ _ _ _) := hide (BoxAt.new w #[p, h, b] 37)
  have B0 := hide b0
  clear b0
  go_enter Tryz.func46, Tryz.ntmps46
  go_wp2_with fail
  refine (szStringS_any _ P _ _ RP.out (by decide) (by decide)).mono ?_
  rintro e w1 ⟨⟨r, rfl, hr⟩, rfl⟩
  by_cases r0 : r < 0
  · go_wp2
    go_ret
    exact ⟨⟨-1, rfl, .inl (by decide)⟩, B0.out⟩
  have hrP := hide (hr.resolve_left r0)
  have r1 := hrP.out.2.1
  clear hr
  go_wp2_with fail
  refine (szStringS_any _ H _ _ RH.out (by omega) (by omega)).mono ?_
  rintro e w1 ⟨⟨r2, rfl, hr⟩, rfl⟩
  clear r0 r1
  by_cases r0 : r2 < 0
  · go_wp2
    go_ret
    exact ⟨⟨-1, rfl, .inl (by decide)⟩, B0.out⟩
  have hrH := hide (hr.resolve_left r0)
  have r1 := hrH.out.2.1
  clear hr
  go_wp2_with fail
  refine (szBoolS_calls _ B _ _ RB.out (by omega) (by omega)).mono ?_
  rintro e w1 ⟨⟨r3, rfl, hr⟩, rfl⟩
  clear r0 r1
  by_cases r0 : r3 < 0
  · go_wp2
    go_ret
    exact ⟨⟨-1, rfl, .inl (by decide)⟩, B0.out⟩
  have hrB := hide (hr.resolve_left r0)
  clear hr
  go_wp2
  go_ret
  exact ⟨⟨r3, rfl, .inr ⟨hrB.out.1, hrB.out.2.1, hrP.out.2.2, hrH.out.2.2, hrB.out.2.2⟩⟩, B0.out⟩

set_option maxRecDepth 100000 in
set_option maxHeartbeats 800000 in
theorem eqDisk_same (p h b p' h' b' : Value) (P H : List ByteArray) (B : List Bool) (w : World) (hp : RdT w p P) (hh : RdT w h H) (hb : RdZ w b B) (hp' : RdT w p' P) (hh' : RdT w h' H) (hb' : RdZ w b' B) :
    Calls Tryz.prog 50 #[.agg #[p, h, b], .agg #[p', h', b']] w fun e w' => e = .returned (.bool true) ∧ Below w.heap.size w w' := by
  have b0 := (below_box w (.cells #[p, h, b] 26)).trans ((below_box (w.alloc (.cells #[p, h, b] 26)) (.cells #[p', h', b'] 26)).mono (by simp))
  have RP := hide (hp.below b0)
  have RH := hide (hh.below b0)
  have RB := hide (hb.below b0)
  have RP' := hide (hp'.below b0)
  have RH' := hide (hh'.below b0)
  have RB' := hide (hb'.below b0)
  clear hp hh hb hp' hh' hb'
  have B0 := hide b0
  clear b0
  go_enter Tryz.func50, Tryz.ntmps50
  go_wp2_with fail
  refine (eqStringS_same _ _ P _ RP.out RP'.out).mono ?_
  rintro e w1 ⟨rfl, b1⟩
  have x1 := BoxAt.below (hide (BoxAt.new w #[p, h, b] 26)).out ((below_box _ (.cells #[p', h', b'] 26)).trans (b1.mono (by simp)))
  have y1 := BoxAt.below (BoxAt.new (w.alloc (.cells #[p, h, b] 26)) #[p', h', b'] 26) b1
  have X1 := hide x1
  have Y1 := hide y1
  obtain ⟨c0, c1, c2⟩ := x1.c3
  obtain ⟨d0, d1, d2⟩ := y1.c3
  simp only [World.size_alloc] at d0 d1 d2
  have D1 := hide b1
  clear b1 c0 d0 c2 d2 x1 y1
  go_wp2_with fail
  refine (eqStringS_same _ _ H _ (RH.out.below D1.out) (RH'.out.below D1.out)).mono ?_
  rintro e w2 ⟨rfl, b2⟩
  clear c1 d1
  have D2 := hide (D1.out.trans (b2.mono D1.out.size))
  obtain ⟨c0, c1, c2⟩ := (X1.out.below b2).c3
  obtain ⟨d0, d1, d2⟩ := (Y1.out.below b2).c3
  simp only [World.size_alloc] at d0 d1 d2
  clear b2 c0 d0 c1 d1
  go_wp2_with fail
  refine (eqBoolS_same _ _ B _ (RB.out.below D2.out) (RB'.out.below D2.out)).mono ?_
  rintro e w3 ⟨rfl, b3⟩
  clear c2 d2
  have D3 := hide (D2.out.trans (b3.mono D2.out.size))
  clear b3
  go_wp2
  go_ret
  exact ⟨rfl, B0.out.trans (D3.out.mono B0.out.size)⟩
end Go.Proofs.YtbgadbokejaomaaGreatDoor

namespace Go.Proofs.YtbgadbokejaomaaGreatDoor
open Go.RowKit
set_option linter.unusedVariables false

theorem dskInfo : (Tryz.prog.info? 26).map (·.size) = some 3 := by kernel_rfl
/-- A function whose result is a disk that lies in a cell. -/
theorem res_dsk {fn : Func} {x : Tmp} (hf : fn.results = #[.cell x 26]) (tmps : Array Value) (w : World) (g : Nat) (p h b : Value) (fr : Nat × Nat) (hp : tmps.getD x undef = .pointer (some ⟨g, 0, none⟩))
    (hg : w.heap[g]? = some (.cells #[p, h, b] 26 fr)) : (results fn tmps).run Tryz.prog w = .ok (.agg #[p, h, b]) w :=
  results_cell_row hf tmps w g _ _ fr _ hp hg Tryz.underlying26 rfl dskInfo
theorem res_dsk2 {fn : Func} {x u : Tmp} (hf : fn.results = #[.cell x 26, .tmp u]) (tmps : Array Value) (w : World) (g : Nat) (p h b : Value) (fr : Nat × Nat) (hp : tmps.getD x undef = .pointer (some ⟨g, 0, none⟩))
    (hg : w.heap[g]? = some (.cells #[p, h, b] 26 fr)) : (results fn tmps).run Tryz.prog w = .ok (.tuple #[.agg #[p, h, b], tmps.getD u undef]) w := by
  have hp' : tmps[x]?.getD undef = .pointer (some ⟨g, 0, none⟩) := by simpa using hp
  simp [results, hf, hp', asAddr, run_loadVar_row w g _ _ _ fr _ hg Tryz.underlying26 rfl dskInfo]
set_option maxRecDepth 100000 in
set_option maxHeartbeats 800000 in
theorem markDisk_calls (p h b : Value) (P H : List ByteArray) (B : List Bool) (k lo hi : Nat) (w : World) (d : DskV w lo hi p h b P H B) (hhi : hi ≤ w.heap.size) (hk0 : 0 < k) (hk : k ≤ 100000000) (hz : SzD P H B) :
    Calls Tryz.prog 51 #[.agg #[p, h, b], .int .i64 k] w fun e w' => e = .returned (.int .i64 ((k + P.length + H.length + B.length : Nat) : Int)) ∧
      DskV w' lo hi p h b (marksT k P.length) (marksT (k + P.length) H.length) (marksZ ((k + P.length + H.length : Nat) : Int) B.length) ∧ Chg lo hi w w' := by
  obtain ⟨zp, zh, zb⟩ := hz
  have D0 := hide (d.below (below_box w (.cells #[p, h, b] 26)))
  have C0 : Hid (Chg lo hi w (w.alloc (.cells #[p, h, b] 26))) := Chg.ofAlloc w _
  have X0 := hide (BoxAt.new w #[p, h, b] 26)
  clear d
  obtain ⟨n1, e1⟩ : ∃ n, n = k + P.length := ⟨_, rfl⟩
  obtain ⟨n2, e2⟩ : ∃ n, n = n1 + H.length := ⟨_, rfl⟩
  rw [← e1, ← e2]
  have b1 : n1 ≤ 101048576 := by omega
  have b2 : n2 ≤ 102097152 := by omega
  have p1 : 0 < n1 := by omega
  have p2 : 0 < n2 := by omega
  have E1 := hide e1
  have E2 := hide e2
  clear e1 e2
  go_enter Tryz.func51, Tryz.ntmps51
  go_wp2_with fail
  refine (markStringS_calls _ P k lo _ D0.out.plate hk0 (by omega) zp).mono ?_
  rintro e w1 ⟨rfl, o1, g1⟩
  have C1 := hide (C0.out.trans (D0.out.chgP g1))
  have X1 := hide (X0.out.chg (D0.out.chgP g1) (.inr hhi))
  have D1 := hide (D0.out.setP o1 (marksT_small _ _ (by omega)) g1)
  clear o1 g1 C0 X0 D0
  rw [← E1.out]
  obtain ⟨c0, c1, c2⟩ := X1.out.c3
  clear c0 c2
  go_wp2_with fail
  refine (markStringS_calls _ H n1 lo _ D1.out.held p1 (by omega) zh).mono ?_
  rintro e w2 ⟨rfl, o1, g1⟩
  clear c1
  have C2 := hide (C1.out.trans (D1.out.chgH g1))
  have X2 := hide (X1.out.chg (D1.out.chgH g1) (.inr hhi))
  have D2 := hide (D1.out.setH o1 (marksT_small _ _ (by omega)) g1)
  clear o1 g1 C1 X1 D1
  rw [← E2.out]
  obtain ⟨c0, c1, c2⟩ := X2.out.c3
  clear c0 c1
  go_wp2_with fail
  refine (markBoolS_calls _ B n2 lo _ D2.out.bad (by omega) (by omega) zb).mono ?_
  rintro e w3 ⟨rfl, o1, g1⟩
  clear c2
  have C3 := hide (C2.out.trans (D2.out.chgB g1))
  have D3 := hide (D2.out.setB o1 g1)
  clear o1 g1 C2 X2 D2
  go_wp2
  go_ret
  exact ⟨rfl, D3.out, C3.out⟩

set_option maxRecDepth 100000 in
set_option maxHeartbeats 800000 in
theorem heldDisk_calls (p h b : Value) (np nh nb k : Nat) (w : World) (hp : RdT w p (marksT k np)) (hh : RdT w h (marksT (k + np) nh)) (hb : RdZ w b (marksZ ((k + np + nh : Nat) : Int) nb)) (hk0 : 0 < k) (hk : k ≤ 100000000) (zp : np ≤ 1048576) (zh : nh ≤ 1048576) (zb : nb ≤ 1048576) :
    Calls Tryz.prog 52 #[.agg #[p, h, b], .int .i64 k] w fun e w' => e = .returned (.int .i64 ((k + np + nh + nb : Nat) : Int)) ∧ Below w.heap.size w w' := by
  have b0 := below_box w (.cells #[p, h, b] 26)
  have RP := hide (hp.below b0)
  have RH := hide (hh.below b0)
  have RB := hide (hb.below b0)
  have X0 := hide (BoxAt.new w #[p, h, b] 26)
  have B0 := hide b0
  clear b0 hp hh hb
  obtain ⟨n1, e1⟩ : ∃ n, n = k + np := ⟨_, rfl⟩
  obtain ⟨n2, e2⟩ : ∃ n, n = n1 + nh := ⟨_, rfl⟩
  rw [← e1] at RH RB ⊢
  rw [← e2] at RB ⊢
  have b1 : n1 ≤ 101048576 := by omega
  have b2 : n2 ≤ 102097152 := by omega
  have p1 : 0 < n1 := by omega
  have p2 : 0 < n2 := by omega
  have q1 : ¬ (n1 : Int) < 0 := by omega
  have q2 : ¬ (n2 : Int) < 0 := by omega
  have q3 : ¬ (n2 : Int) + (nb : Int) < 0 := by omega
  have E1 := hide e1
  have E2 := hide e2
  clear e1 e2
  go_enter Tryz.func52, Tryz.ntmps52
  go_wp2_with fail
  refine (heldStringS_calls _ np k _ RP.out hk0 (by omega) zp).mono ?_
  rintro e w1 ⟨rfl, b1⟩
  rw [← E1.out]
  have D1 := hide b1
  have X1 := hide (X0.out.below b1)
  clear b1 X0
  obtain ⟨c0, c1, c2⟩ := X1.out.c3
  clear c0 c2
  go_wp2_with fail
  refine (heldStringS_calls _ nh n1 _ (RH.out.below D1.out) p1 (by omega) zh).mono ?_
  rintro e w2 ⟨rfl, b2⟩
  rw [← E2.out]
  clear c1
  have D2 := hide (D1.out.trans (b2.mono D1.out.size))
  have X2 := hide (X1.out.below b2)
  clear b2 X1 D1
  obtain ⟨c0, c1, c2⟩ := X2.out.c3
  clear c0 c1
  go_wp2_with fail
  refine (heldBoolS_calls _ nb n2 _ (RB.out.below D2.out) (by omega) (by omega) zb).mono ?_
  rintro e w3 ⟨rfl, rfl⟩
  clear c2
  go_wp2
  go_ret
  exact ⟨rfl, B0.out.trans (D2.out.mono B0.out.size)⟩
end Go.Proofs.YtbgadbokejaomaaGreatDoor

namespace Go.Proofs.YtbgadbokejaomaaGreatDoor
open Go.RowKit
set_option linter.unusedVariables false

abbrev nil3 : Array Value := #[.slice none 0 0, .slice none 0 0, .slice none 0 0]

set_option maxRecDepth 100000 in
set_option maxHeartbeats 800000 in
theorem toDisk_calls (p h b : Value) (P H : List ByteArray) (B : List Bool) (w : World) (hp : RdT w p P) (hh : RdT w h H) (hb : RdZ w b B) (hz : SzD P H B) :
    Calls Tryz.prog 48 #[.agg #[p, h, b]] w fun e w' => ∃ p' h' b', e = .returned (.agg #[p', h', b']) ∧ DskV w' w.heap.size w'.heap.size p' h' b' P H B ∧ Below w.heap.size w w' := by
  obtain ⟨zp, zh, zb⟩ := hz
  obtain ⟨wa, ea⟩ : ∃ wa, wa = w.alloc (.cells #[p, h, b] 37) := ⟨_, rfl⟩
  obtain ⟨wb, eb⟩ : ∃ wb, wb = wa.alloc (.cells nil3 26) := ⟨_, rfl⟩
  obtain ⟨wc, ec⟩ : ∃ wc, wc = wb.alloc (.cells nil3 26) := ⟨_, rfl⟩
  have sa : wa.heap.size = w.heap.size + 1 := by rw [ea]; simp
  have sb : wb.heap.size = w.heap.size + 1 + 1 := by rw [eb, World.size_alloc, sa]
  have sc : wc.heap.size = w.heap.size + 1 + 1 + 1 := by rw [ec, World.size_alloc, sb]
  have ba : Below w.heap.size w wa := by rw [ea]; exact below_box _ _
  have bb : Below wa.heap.size wa wb := by rw [eb]; exact below_box _ _
  have bc : Below wb.heap.size wb wc := by rw [ec]; exact below_box _ _
  have bz : Below w.heap.size w wc := (ba.trans (bb.mono (by omega))).trans (bc.mono (by omega))
  have xa : BoxAt wa w.heap.size #[p, h, b] 37 := by rw [ea]; exact BoxAt.new _ _ _
  have xb : BoxAt wb (w.heap.size + 1) nil3 26 := by rw [eb, ← sa]; exact BoxAt.new _ _ _
  have xc : BoxAt wc (w.heap.size + 1 + 1) nil3 26 := by rw [ec, ← sb]; exact BoxAt.new _ _ _
  have XA := hide ((xa.below bb).below bc)
  have XB := hide (xb.below bc)
  have XC := hide xc
  have SC := hide sc
  have EC : Hid (((w.alloc (.cells #[p, h, b] 37)).alloc (.cells nil3 26)).alloc (.cells nil3 26) = wc) := by show _ = _; rw [ec, eb, ea]
  have BZ := hide bz
  have RP := hide hp
  have RH := hide hh
  have RB := hide hb
  have SP := hide hp.small
  have SH := hide hh.small
  have y0 : w.heap.size ≤ w.heap.size + 1 + 1 := by omega
  have y1 : ¬ w.heap.size = w.heap.size + 1 + 1 := by omega
  have y2 : ¬ w.heap.size + 1 = w.heap.size + 1 + 1 := by omega
  have y3 : ¬ w.heap.size + 1 + 1 = w.heap.size + 1 := by omega
  clear hp hh hb xa xb xc ba bb bc bz sa sb sc ea eb ec
  go_enter Tryz.func48, Tryz.ntmps48
  go_wp2_with fail
  rw [EC.out]
  refine (toStringS_calls _ P _ (RP.out.below BZ.out) zp).mono ?_
  rintro e w1 ⟨p', rfl, o1, b1⟩
  have l1 : w.heap.size + 1 + 1 < w1.heap.size := by have := b1.size; have := SC.out; omega
  obtain ⟨a1, k1, rfl⟩ := row_slice o1
  have K1 := hide (Chg.ofSetCell (lo := w.heap.size + 1 + 1) (hi := w.heap.size + 1 + 1 + 1) w1 (w.heap.size + 1 + 1) 0 (.slice a1 P.length k1) (Nat.le_refl _) (by omega))
  have XA1 := hide (XA.out.below b1)
  have XB1 := hide (XB.out.below b1)
  have XC1 := hide (XC.out.below b1)
  have T1 := hide (row_top o1)
  have O1 := hide (ownsRow_chg o1 (row_top o1) K1.out (.inr (by have := SC.out; omega)))
  have D1 := hide ((BZ.out.trans (b1.mono BZ.out.size)).setCell (p := ⟨w.heap.size + 1 + 1, 0, none⟩) (by exact y0) (.slice a1 P.length k1))
  clear o1 b1 XA XB XC
  have f0 := XC1.out.frozen 0
  have c0 := XC1.out.cell 0
  have c1 := XA1.out.cell 1
  simp only [List.getElem?_toArray, List.getElem?_cons_zero, List.getElem?_cons_succ] at c0 c1
  go_wp2_with fail
  clear f0 c0 c1
  have XA2 := hide (XA1.out.chg K1.out (.inl (by omega)))
  have XB2 := hide (XB1.out.chg K1.out (.inl (by omega)))
  have XC2 := hide (XC1.out.set 0 (.slice a1 P.length k1))
  have s1 := K1.out.size
  have s1' : (w1.setCell ⟨w.heap.size + 1 + 1, 0, none⟩ (.slice a1 P.length k1)).heap.size = w1.heap.size := by simp
  clear K1 XA1 XB1 XC1
  generalize w1.setCell ⟨w.heap.size + 1 + 1, 0, none⟩ (.slice a1 P.length k1) = w2 at *
  refine (toStringS_calls _ H _ (RH.out.below D1.out) zh).mono ?_
  rintro e w3 ⟨h', rfl, o2, b2⟩
  have l2 : w.heap.size + 1 + 1 < w3.heap.size := by have := b2.size; omega
  obtain ⟨a2, k2, rfl⟩ := row_slice o2
  have K1 := hide (Chg.ofSetCell (lo := w.heap.size + 1 + 1) (hi := w.heap.size + 1 + 1 + 1) w3 (w.heap.size + 1 + 1) 1 (.slice a2 H.length k2) (Nat.le_refl _) (by omega))
  have XA1 := hide (XA2.out.below b2)
  have XB1 := hide (XB2.out.below b2)
  have XC1 := hide (XC2.out.below b2)
  have T2 := hide (row_top o2)
  have L2 := hide (row_low o2)
  have O2 := hide (ownsRow_chg o2 (row_top o2) K1.out (.inr (by omega)))
  have O1' := hide (ownsRow_chg (ownsRow_below O1.out b2) T1.out K1.out (.inr (by have := SC.out; omega)))
  have D2 := hide ((D1.out.trans (b2.mono D1.out.size)).setCell (p := ⟨w.heap.size + 1 + 1, 1, none⟩) (by exact y0) (.slice a2 H.length k2))
  have s2 := b2.size
  clear o2 b2 XA2 XB2 XC2 O1 D1
  have f0 := XC1.out.frozen 1
  have c0 := XC1.out.cell 1
  have c1 := XA1.out.cell 2
  simp only [List.getElem?_toArray, List.getElem?_cons_zero, List.getElem?_cons_succ] at c0 c1
  have c0' : w3.cell? ⟨w.heap.size + 1 + 1, 1, none⟩ = some (.slice none 0 0) := c0
  clear c0
  go_wp2_with fail
  clear f0 c0' c1
  have XA2 := hide (XA1.out.chg K1.out (.inl (by omega)))
  have XB2 := hide (XB1.out.chg K1.out (.inl (by omega)))
  have XC2 := hide (XC1.out.set 1 (.slice a2 H.length k2))
  have s3' : (w3.setCell ⟨w.heap.size + 1 + 1, 1, none⟩ (.slice a2 H.length k2)).heap.size = w3.heap.size := by simp
  clear K1 XA1 XB1 XC1
  generalize w3.setCell ⟨w.heap.size + 1 + 1, 1, none⟩ (.slice a2 H.length k2) = w4 at *
  refine (toBoolS_calls _ B _ (RB.out.below D2.out) zb).mono ?_
  rintro e w5 ⟨b', rfl, o3, b3⟩
  have l3 : w.heap.size + 1 + 1 < w5.heap.size := by have := b3.size; omega
  obtain ⟨a3, k3, rfl⟩ := row_slice o3
  have K1 := hide (Chg.ofSetCell (lo := w.heap.size + 1 + 1) (hi := w.heap.size + 1 + 1 + 1) w5 (w.heap.size + 1 + 1) 2 (.slice a3 B.length k3) (Nat.le_refl _) (by omega))
  have XB1 := hide (XB2.out.below b3)
  have XC1 := hide (XC2.out.below b3)
  have T3 := hide (row_top o3)
  have O3 := hide (ownsRow_chg o3 (row_top o3) K1.out (.inr (by omega)))
  have O2' := hide (ownsRow_chg (ownsRow_below O2.out b3) T2.out K1.out (.inr (by omega)))
  have O1 := hide (ownsRow_chg (ownsRow_below O1'.out b3) T1.out K1.out (.inr (by have := SC.out; omega)))
  have D3 := hide ((D2.out.trans (b3.mono D2.out.size)).setCell (p := ⟨w.heap.size + 1 + 1, 2, none⟩) (by exact y0) (.slice a3 B.length k3))
  clear XA2 XB2 XC2 D2 O1' O2
  have f0 := XC1.out.frozen 2
  have c0 : w5.cell? ⟨w.heap.size + 1 + 1, 0, none⟩ = some (.slice a1 P.length k1) := XC1.out.cell 0
  have c1 : w5.cell? ⟨w.heap.size + 1 + 1, 1, none⟩ = some (.slice a2 H.length k2) := XC1.out.cell 1
  have c2 : w5.cell? ⟨w.heap.size + 1 + 1, 2, none⟩ = some (.slice none 0 0) := XC1.out.cell 2
  have g0 := XB1.out.frozen 0
  have g1 := XB1.out.frozen 1
  have g2 := XB1.out.frozen 2
  obtain ⟨d0, d1, d2⟩ := XB1.out.c3
  have F := hide ((XB1.out.chg K1.out (.inl (by omega))))
  have s5 := b3.size
  clear o3 b3 XB1 XC1
  go_wp2
  have s6 : (w5.setCell ⟨w.heap.size + 1 + 1, 2, none⟩ (.slice a3 B.length k3)).heap.size = w5.heap.size := by simp
  generalize w5.setCell ⟨w.heap.size + 1 + 1, 2, none⟩ (.slice a3 B.length k3) = w6 at *
  have C6 := Chg.store3 (lo := w.heap.size + 1) (hi := w.heap.size + 1 + 1) w6 (w.heap.size + 1) (.slice a1 P.length k1) (.slice a2 H.length k2) (.slice a3 B.length k3) (Nat.le_refl _) (by omega)
  have s7 := C6.size
  refine bodyPost_ret (res_dsk rfl _ _ (w.heap.size + 1) _ _ _ (0, 0) rfl (F.out.store3 _ _ _)) rfl ⟨_, _, _, rfl, ?_, D3.out.trans (C6.below (by omega) (by omega))⟩
  have d6 : DskV w6 (w.heap.size + 1 + 1 + 1) w6.heap.size (.slice a1 P.length k1) (.slice a2 H.length k2) (.slice a3 B.length k3) P H B :=
    ⟨ownsRow_mono O1.out (by have := SC.out; omega), ownsRow_mono O2'.out (by omega), ownsRow_mono O3.out (by omega), fun k hk => by have := T1.out k hk; omega, fun k hk => by have := T2.out k hk; omega, fun k hk => by have := T3.out k hk; omega,
      by
        cases hu : (Value.slice a1 P.length k1).ownBlock with
        | none => exact .inl rfl
        | some x =>
          right
          intro e
          have := T1.out x hu
          have := L2.out x e.symm
          omega, SP.out, SH.out⟩
  exact (d6.chg C6 (.inr (by omega))).wider (by omega) (by omega)
end Go.Proofs.YtbgadbokejaomaaGreatDoor
