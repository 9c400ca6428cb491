/-
  Blocks, elements and bodies: the program's blockOf, elementsOf, bodyOf, and these for each of a list. Each contract says what it asks.
  'append(l, k)': one integer behind a row of the call's own, and where it lies then. No call is walked here.
  PiecesFor: the program's and its model's, at every text. The program's table of rests must hold its seven numbers where the program's own functions are called.
  TextFrom: the program's and its model's, at all rows. The program's table of rests must hold its seven numbers where the program's own functions are called.
  The law that holds the program's TextFrom against its model's: at all rows that can be read the call returns true, and nothing that was there is written. The program's table of rests must hold its seven numbers.
-/
import Derived.Test.YtiojipicincgfaaDoorRep
import Derived.Test.YtiojipicincgfaaDoorSpl
import Derived.Test.YtiojipicincgfaaDoorEncP
import Derived.Test.YtiojipicincgfaaDoorHnd
import Derived.Test.YtiojipicincgfaaDoorInts
import Derived.Deep.AppendLies
import Derived.Deep.DeepCutAuto
import Derived.Test.YtiojipicincgfaaDoorJn
import Derived.Test.YtiojipicincgfaaDoorCheck
section
namespace Go.Proofs.YtiojipicincgfaaDoor
open Go.RowKit
open Gf (ci nat)
set_option linter.unusedVariables false

/-- A block: a byte of the text's length, the text, noughts: 48 in all. -/
def blk (S : ByteArray) : List Nat := S.size :: (bs S ++ List.replicate (47 - S.size) 0)
theorem blk_length {S : ByteArray} (h : S.size ≤ 47) : (blk S).length = 48 := by
  unfold blk
  rw [List.length_cons, List.length_append, bs_length, List.length_replicate]
  omega
theorem blk_small {S : ByteArray} (h : S.size ≤ 47) : ∀ b ∈ blk S, b < 256 := by
  intro b hb
  unfold blk at hb
  rcases List.mem_cons.1 hb with hb | hb
  · omega
  · rcases List.mem_append.1 hb with hb | hb
    · exact bs_lt S b hb
    · simp only [List.mem_replicate] at hb
      omega
theorem rep0 (c : Nat) : (⟨(Go.Lib.repeatL (⟨#[0]⟩ : ByteArray).data.toList c).toArray⟩ : ByteArray) = ofN (List.replicate c 0) := by
  have := Go.Lib.repeatL_replicate 0 1 c
  simp only [List.replicate_one, Nat.mul_one] at this
  unfold ofN
  congr 1
  show (Go.Lib.repeatL [0] c).toArray = _
  rw [this, List.map_replicate]
  rfl
theorem RdT.slB {w : World} {v : Value} {xs : List ByteArray} (h : RdT w v xs) : ∃ a cap, v = .slice a xs.length cap ∧ xs.length ≤ cap := by
  obtain ⟨a, cap, rfl, h1, _⟩ := h
  exact ⟨a, cap, rfl, h1⟩
theorem RdT.cellB {w : World} {a : Option Addr} {n cap : Nat} {xs : List ByteArray} (h : RdT w (.slice a n cap) xs) (i : Nat) (hi : i < xs.length) : ∃ b off, a = some ⟨b, off, none⟩ ∧ w.cell? ⟨b, off + i, none⟩ = some (.string (xs.getD i ⟨#[]⟩)) := by
  obtain ⟨a', cap', e, h1, h2, h4, h3⟩ := h
  simp only [Value.slice.injEq] at e
  obtain ⟨rfl, _, rfl⟩ := e
  rcases h3 with h3 | ⟨b, off, rfl, hlt, hc⟩
  · subst h3; simp at hi
  · exact ⟨b, off, rfl, hc i hi⟩
/-- What is laid so far. -/
def padU (us : List Value) (n : Nat) : List Value := us ++ List.replicate (n - us.length) nilRow
theorem padU_length (us : List Value) (n : Nat) (h : us.length ≤ n) : (padU us n).length = n := by simp [padU]; omega
theorem padU_set (us : List Value) (n : Nat) (u : Value) (h : us.length < n) : (padU us n).set us.length u = padU (us ++ [u]) n := by
  unfold padU
  obtain ⟨k, hk⟩ : ∃ k, n - us.length = k + 1 := ⟨n - us.length - 1, by omega⟩
  have hk2 : n - (us ++ [u]).length = k := by simp; omega
  rw [hk, hk2, List.replicate_succ, List.set_append_right _ _ (Nat.le_refl _), Nat.sub_self, List.set_cons_zero, List.append_assoc]
  rfl

set_option maxRecDepth 100000 in
set_option maxHeartbeats 800000 in
theorem blockOf_calls (S : ByteArray) (w : World) (hS : S.size ≤ 47) :
    Calls Tryd.prog 16 #[.string S] w fun e w' => e = .returned (.string (ofN (blk S))) ∧ Below w.heap.size w w' := by
  have B0 := hide (below_box w (.cells #[.int .u8 (S.size : Int)] 5))
  have hbt := byte_text S.size (by omega) w
  have e1 : ofN [S.size] ++ S = ofN (S.size :: bs S) := by
    have := ofN_append [S.size] (bs S)
    rw [ofN_bs] at this
    exact this
  have RP := hide (fun W => Tryd.strings_Repeat ⟨#[0]⟩ (47 - S.size) W (by omega) (by show 1 * _ ≤ _; omega))
  have E5 : Hid ((47 : Int) - (S.size : Int) = ((47 - S.size : Nat) : Int)) := by show _ = _; omega
  have hadd := run_string_add_sum (P := Tryd.prog) (w := w.alloc (.cells #[.int .u8 (S.size : Int)] 5)) (ofN [S.size]) S (by rw [ofN_size]; simp; omega)
  rw [e1] at hadd
  clear e1
  go_enter Tryd.func16, Tryd.ntmps16
  go_wp2_with fail
  rw [E5.out]
  refine (RP.out _).mono ?_
  rintro e w1 ⟨rfl, q⟩
  rw [rep0]
  have B1 := hide (B0.out.trans (q.mono (by simp)))
  clear q hadd hbt
  have hadd2 := run_string_add_sum (P := Tryd.prog) (w := w1) (ofN (S.size :: bs S)) (ofN (List.replicate (47 - S.size) 0)) (by rw [ofN_size, ofN_size, List.length_cons, List.length_replicate, bs_length]; omega)
  rw [ofN_append] at hadd2
  go_wp2
  go_ret
  exact ⟨rfl, B1.out⟩

set_option maxRecDepth 100000 in
set_option maxHeartbeats 800000 in
theorem elementsOf_calls (S : ByteArray) (w : World) (hS : S.size ≤ 4096) :
    Calls Tryd.prog 19 #[.string S] w fun e w' => ∃ v', e = .returned v' ∧ Own w' w.heap.size v' (ci (bs S)) ∧ Below w.heap.size w w' := by
  have hl : (ci (bs S)).length = S.size := by rw [Gf.ci_length, bs_length]
  have HL := hide hl
  clear hl
  go_enter Tryd.func19, Tryd.ntmps19
  go_wp2_with (at_make; refine wpList_make_ints rfl _ _ rfl w.heap.size _ _ S.size rfl rfl (by omega) (by omega) (by omega) (Nat.le_refl _) ?_)
  intro w0 ho0 hg0
  have hb0 : Below w.heap.size w w0 := (Below.refl _ _).grown hg0 (Nat.le_refl _) (fun k h => by cases h)
  have O0 := hide ho0
  have B0 := hide hb0
  clear ho0 hg0 hb0
  go_wp2
  go_loopw [4, 10] (fun _ vi wr => ∃ k : Nat, k ≤ S.size ∧ vi = .int .i64 k ∧ Own wr w.heap.size (.slice (some ⟨w.heap.size, 0, none⟩) S.size S.size) (cpTo (ci (bs S)) k) ∧ Below w.heap.size w wr) (fun _ vi _ => S.size - (intOf vi).toNat)
  case atStart =>
    refine ⟨0, Nat.zero_le _, rfl, ?_, B0.out⟩
    rw [cpTo_zero, HL.out]
    exact O0.out
  case round =>
    obtain ⟨k, hk, rfl, ho, hb⟩ := hrel
    by_cases hlt : k < S.size
    · have hlt' : (k : Int) < (S.size : Int) := by omega
      have hcl : (cpTo (ci (bs S)) k).length = S.size := by rw [cpTo_length _ k (by rw [HL.out]; exact hk), HL.out]
      obtain ⟨hfz, hcell⟩ := ho.at k (by rw [hcl]; exact hlt)
      obtain ⟨old, hold⟩ : ∃ o, o = (cpTo (ci (bs S)) k).getD k 0 := ⟨_, rfl⟩
      rw [← hold] at hcell
      obtain ⟨byt, hbz⟩ : ∃ byt, byt = S[k].toNat := ⟨_, rfl⟩
      have hb256 : byt < 256 := by rw [hbz]; exact (S[k]).toNat_lt
      have hbyt : byt = (bs S).getD k 0 := by rw [hbz]; exact (bs_getD S k hlt).symm
      have hbz' := hbz.symm
      have hst : (cpTo (ci (bs S)) k).set k (byt : Int) = cpTo (ci (bs S)) (k + 1) := by
        have := cpTo_step (ci (bs S)) k (by rw [HL.out]; exact hlt)
        rw [Gf.ci_getD, ← hbyt] at this
        exact this
      have W := hide (ho.put k (byt : Int))
      have ST := hide hst
      have B := hide hb
      clear hold ho hb hst hcl hbyt hbz
      go_wp2
      go_roundw
      case rel =>
        refine ⟨k + 1, by omega, by go_num, ?_, B.out.setCell (Nat.le_refl _) _⟩
        have := W.out.1
        rw [ST.out] at this
        exact this
      case measure => simp [intOf]; omega
    · obtain rfl : k = S.size := by omega
      have h := ho
      have e := cpTo_end (ci (bs S))
      rw [HL.out] at e
      rw [e] at h
      have O := hide h
      have B := hide hb
      clear ho hb h e
      go_wp2
      go_ret
      exact ⟨_, rfl, O.out, B.out⟩

set_option maxRecDepth 100000 in
set_option maxHeartbeats 800000 in
theorem bodyOf_calls (v : Value) (l : List Nat) (w : World) (h : Rd w v (ci l)) (hl : ∀ b ∈ l, b < 256) (hn : l.length ≤ 4096) :
    Calls Tryd.prog 32 #[v] w fun e w' => e = .returned (.string (ofN l)) ∧ Below w.heap.size w w' := by
  obtain ⟨a, cap, hv, m1, m2, m3⟩ := h
  rw [Gf.ci_length] at hv m3
  subst hv
  have M3 := hide m3
  have HL := hide hl
  clear m1 m2 m3 hl
  go_enter Tryd.func32, Tryd.ntmps32
  go_wp2_with (at_make; refine wpList_make_bytes rfl _ _ rfl w.heap.size _ _ l.length rfl rfl (by omega) (by omega) (by omega) (Nat.le_refl _) ?_)
  intro w2 hown hgrow
  have Z2 := hide (zrow_made hown)
  have B2 := hide (grown_none hgrow)
  clear hown hgrow
  go_wp2
  go_loopw [4, 5, 11] (fun _ _ vi wr => ∃ k : Nat, k ≤ l.length ∧ vi = .int .i64 k ∧ ZRow wr w.heap.size (l.take k ++ List.replicate (l.length - k) 0) ∧ Below w.heap.size w wr) (fun _ _ vi _ => l.length - (intOf vi).toNat)
  case atStart => exact ⟨0, Nat.zero_le _, rfl, by simpa using Z2.out, B2.out⟩
  case round =>
    obtain ⟨k, hk, rfl, hz, hb⟩ := hrel
    have HB := hide hb
    have HZ := hide hz
    by_cases hlt : k < l.length
    · have hlt' : (k : Int) < (l.length : Int) := by omega
      rcases M3.out with h3 | ⟨b, off, rfl, hbs, hc⟩
      · have : l = [] := by simpa [ci] using h3
        rw [this] at hlt
        simp at hlt
      have hck : wr.cell? ⟨b, off + k, none⟩ = some (.int .i64 ((l.getD k 0 : Nat) : Int)) := by
        rw [← Gf.ci_getD]
        exact (hb.cell (p := ⟨b, off + k, none⟩) hbs).trans (hc k hlt)
      have hx256 : l.getD k 0 < 256 := by
        rw [List.getD_eq_getElem?_getD, List.getElem?_eq_getElem hlt]
        exact HL.out _ (List.getElem_mem hlt)
      have hst : (l.take k ++ List.replicate (l.length - k) 0).set k (l.getD k 0) = l.take (k + 1) ++ List.replicate (l.length - (k + 1)) 0 := by
        obtain ⟨n, hn'⟩ : ∃ n, l.length - k = n + 1 := ⟨l.length - k - 1, by omega⟩
        have hn2 : l.length - (k + 1) = n := by omega
        rw [hn', hn2, List.replicate_succ, List.set_append_right _ _ (by simp; omega), List.take_succ_eq_append_getElem hlt, List.append_assoc]
        have e2 : k - (l.take k).length = 0 := by simp; omega
        rw [e2, List.set_cons_zero, List.getD_eq_getElem?_getD, List.getElem?_eq_getElem hlt]
        rfl
      have c0 := hz.cell k (by simp; omega)
      have f0 := hz.frozen k
      have ST := hide hst
      generalize l.getD k 0 = x at hck hx256 ST
      have SZ := hide (HZ.out.set k x)
      generalize (l.take k ++ List.replicate (l.length - k) 0).getD k 0 = old at c0
      clear hc hz hb hst HZ
      go_wp2
      go_roundw
      case rel =>
        refine ⟨k + 1, by omega, by go_num, ?_, HB.out.setCell (Nat.le_refl _) _⟩
        have := SZ.out
        rw [ST.out] at this
        exact this
      case measure => simp [intOf]; omega
    · obtain rfl : k = l.length := by omega
      have hz2 : ZRow wr w.heap.size l := by simpa using hz
      have hcv := hz2.conv (n := l.length) (cap := l.length) HL.out (Nat.le_refl _)
      rw [List.take_of_length_le (Nat.le_refl _)] at hcv
      clear hz hz2 hb HZ
      go_wp2
      go_ret
      exact ⟨rfl, HB.out⟩

set_option maxRecDepth 100000 in
set_option maxHeartbeats 1600000 in
theorem eachElems_calls (v : Value) (xs : List ByteArray) (w : World) (h : RdT w v xs) (hz : ∀ i, i < xs.length → (xs.getD i ⟨#[]⟩).size ≤ 4096) (hn : xs.length ≤ 4096) :
    Calls Tryd.prog 18 #[v, .func (.func 19) #[] #[]] w fun e w' => ∃ v', e = .returned v' ∧ RdM w' v' (xs.map (fun s : ByteArray => ci (bs s))) ∧ Below w.heap.size w w' := by
  have R := hide h
  have SZ := hide hz
  obtain ⟨m, hm⟩ : ∃ m, m = xs.map (fun s : ByteArray => ci (bs s)) := ⟨_, rfl⟩
  have ml : m.length = xs.length := by rw [hm, List.length_map]
  have mg : ∀ k, k < xs.length → m.getD k [] = (fun s : ByteArray => ci (bs s)) (xs.getD k ⟨#[]⟩) := fun k hk => by
    rw [hm]
    simp only [List.getD_eq_getElem?_getD]
    rw [List.getElem?_map, List.getElem?_eq_getElem hk]
    rfl
  rw [← hm]
  have ML := hide ml
  have MG := hide mg
  obtain ⟨a, cap, rfl, m1⟩ := h.slB
  clear h hm ml mg m1
  go_enter Tryd.func18, Tryd.ntmps18
  go_wp2_with (at_make; refine wpList_make_rows rfl _ _ rfl _ _ xs.length rfl rfl (by omega) (by omega) (by omega) ?_)
  intro w0 hm0 hg0
  have M0 := hide hm0.head
  have B0 := hide ((Below.refl w.heap.size w).grown hg0 (Nat.le_refl _) (fun k h => by cases h))
  clear hm0 hg0
  go_wp2
  go_loopw [6, 7, 13] (fun _ _ vi wr => ∃ us : List Value, us.length ≤ xs.length ∧ vi = .int .i64 us.length ∧ wr.ownsRow w.heap.size 39 1 (.slice (some ⟨w.heap.size, 0, none⟩) xs.length xs.length) xs.length (padU us xs.length) ∧ (∀ i, i < us.length → Own wr (w.heap.size + 1) (us.getD i nilRow) (m.getD i [])) ∧ Below w.heap.size w wr) (fun _ _ vi _ => xs.length - (intOf vi).toNat)
  case atStart =>
    refine ⟨[], Nat.zero_le _, rfl, ?_, fun i hi => by simp at hi, B0.out⟩
    have := M0.out
    rw [List.length_replicate] at this
    exact this
  case round =>
    obtain ⟨us, hk, rfl, ho, hus, hb⟩ := hrel
    have O := hide ho
    have US := hide hus
    have B := hide hb
    clear ho hus hb
    by_cases hlt : us.length < xs.length
    · have hlt' : (us.length : Int) < (xs.length : Int) := by omega
      have hd1 : w.heap.size + 1 ≤ wr.heap.size := (World.ownsRow.lt O.out w.heap.size rfl).2
      obtain ⟨gb, off, rfl, hc⟩ := (R.out.below B.out).cellB us.length hlt
      have G := hide (MG.out us.length hlt)
      have hsz := SZ.out us.length hlt
      generalize xs.getD us.length ⟨#[]⟩ = z at hc G hsz
      go_wp2_with fail
      refine (elementsOf_calls z _ hsz).mono ?_
      rintro e w1 ⟨x, rfl, hx, q⟩
      rw [← G.out] at hx
      have X := hide hx
      obtain ⟨xa, xc, rfl⟩ := row_slice hx
      have O1 := hide (ownsRow_below O.out q)
      have B1 := hide (B.out.trans (q.mono B.out.size))
      have US1 : Hid (∀ i, i < us.length → Own w1 (w.heap.size + 1) (us.getD i nilRow) (m.getD i [])) := fun i hi => (US.out i hi).below q
      clear hx q hc
      generalize hxn : (m.getD us.length []).length = xn at *
      have XN := hide hxn
      clear hxn
      have hpl : us.length < (padU us xs.length).length := by rw [padU_length _ _ hk]; exact hlt
      have hc2 : w1.frozen? ⟨w.heap.size, us.length, none⟩ = false := O1.out.frozenAt us.length
      obtain ⟨old, hc3⟩ : ∃ old, w1.cell? ⟨w.heap.size, us.length, none⟩ = some old := by
        rw [O1.out.cellAt us.length (by omega)]
        exact ⟨_, List.getElem?_eq_getElem hpl⟩
      have ST := hide (O1.out.stored us.length (.slice xa xn xc))
      clear O US G
      go_wp2
      go_roundw
      case rel =>
        refine ⟨us ++ [.slice xa xn xc], by simp; omega, by simp, ?_, fun i hi => ?_, B1.out.setCell (Nat.le_refl _) _⟩
        · have := ST.out.1
          rw [padU_set us xs.length _ hlt] at this
          exact this
        · have kept : ∀ (u : Value) (l : List Int), Own w1 (w.heap.size + 1) u l → Own (w1.setCell ⟨w.heap.size, us.length, none⟩ (.slice xa xn xc)) (w.heap.size + 1) u l := fun u l hu => World.ownsRow.kept hu ST.out.2 (by
            cases hb : u.ownBlock with
            | none => exact .inl rfl
            | some z =>
              right
              have := (World.ownsRow.lt hu z hb).1
              intro e
              simp only [Option.some.injEq] at e
              omega)
          by_cases e : i < us.length
          · have : (us ++ [Value.slice xa xn xc]).getD i nilRow = us.getD i nilRow := by simp only [List.getD_eq_getElem?_getD]; rw [List.getElem?_append_left e]
            rw [this]
            exact kept _ _ (US1.out i e)
          · have e2 : i = us.length := by simp at hi; omega
            subst e2
            have : (us ++ [Value.slice xa xn xc]).getD us.length nilRow = .slice xa xn xc := by simp
            rw [this]
            exact kept _ _ (Own.mono X.out hd1)
      case measure => simp [intOf]; omega
    · have e : us.length = xs.length := by omega
      go_wp2
      go_ret
      refine ⟨_, rfl, ?_, B.out⟩
      have ho := O.out
      have ep : padU us xs.length = us := by unfold padU; rw [show xs.length - us.length = 0 by omega, List.replicate_zero, List.append_nil]
      rw [ep] at ho
      have hc : xs.length ≤ maxLen := by unfold maxLen; omega
      have hlt : w.heap.size < wr.heap.size := (World.ownsRow.lt ho w.heap.size rfl).2
      refine ⟨some ⟨w.heap.size, 0, none⟩, xs.length, by rw [ML.out]; rfl, by rw [ML.out]; exact Nat.le_refl _, ⟨hc, fun h => by cases h⟩, .inr ⟨w.heap.size, 0, rfl, hlt, fun i hi => ?_⟩⟩
      rw [ML.out] at hi
      refine ⟨us.getD i nilRow, ?_, (US.out i (by omega)).rd⟩
      rw [Nat.zero_add, World.ownsRow.cellAt ho i (by omega), List.getD_eq_getElem?_getD, List.getElem?_eq_getElem (by omega)]
      rfl

set_option maxRecDepth 100000 in
set_option maxHeartbeats 800000 in
theorem eachBody_calls (v : Value) (m : List (List Nat)) (w : World) (h : RdM w v (m.map ci)) (hl : ∀ i, i < m.length → (∀ b ∈ m.getD i [], b < 256) ∧ (m.getD i []).length ≤ 4096) (hn : m.length ≤ 24) :
    Calls Tryd.prog 31 #[v, .func (.func 32) #[] #[]] w fun e w' => ∃ v', e = .returned v' ∧ OwnT w' w.heap.size v' (m.map ofN) ∧ Below w.heap.size w w' := by
  have R := hide h
  have HL := hide hl
  obtain ⟨xs, hxs⟩ : ∃ xs, xs = m.map ofN := ⟨_, rfl⟩
  have xl : xs.length = m.length := by rw [hxs, List.length_map]
  have xg : ∀ k, k < m.length → xs.getD k ⟨#[]⟩ = ofN (m.getD k []) := fun k hk => by
    rw [hxs]
    simp only [List.getD_eq_getElem?_getD]
    rw [List.getElem?_map, List.getElem?_eq_getElem hk]
    rfl
  rw [← hxs]
  have XL := hide xl
  have XG := hide xg
  obtain ⟨a, cap, hv, m1, m2, m3⟩ := h
  rw [List.length_map] at hv
  subst hv
  clear hl hxs xl xg m1 m2 m3
  go_enter Tryd.func31, Tryd.ntmps31
  go_wp2_with (at_make; refine wpList_make_texts rfl _ _ rfl w.heap.size _ _ m.length rfl rfl (by omega) (by omega) (by omega) (Nat.le_refl _) ?_)
  intro w0 hown0 hgrow0
  have E0 := hide hown0
  have G0 := hide hgrow0
  clear hown0 hgrow0
  go_wp2
  go_loopw [6, 7, 13] (fun _ _ vi wr => ∃ k : Nat, k ≤ m.length ∧ vi = .int .i64 k ∧ wr.ownsRow w.heap.size 9 1 (.slice (some ⟨w.heap.size, 0, none⟩) m.length m.length) m.length ((cpT xs k).map Value.string) ∧ Below w.heap.size w wr) (fun _ _ vi _ => m.length - (intOf vi).toNat)
  case atStart =>
    refine ⟨0, Nat.zero_le _, rfl, ?_, (Below.refl _ _).grown G0.out (Nat.le_refl _) (fun k h => by cases h)⟩
    rw [cpT_zero, XL.out]
    have := E0.out
    unfold OwnT at this
    rwa [List.length_replicate] at this
  case round =>
    obtain ⟨k, hk, rfl, hown, hb⟩ := hrel
    have O := hide hown
    have HB := hide hb
    by_cases hlt : k < m.length
    · obtain ⟨gb, off, u, rfl, _, hc, hu⟩ := (R.out.below hb).rowAt k (by rw [List.length_map]; exact hlt)
      have hmg : (m.map ci).getD k [] = ci (m.getD k []) := by
        simp only [List.getD_eq_getElem?_getD]
        rw [List.getElem?_map, List.getElem?_eq_getElem hlt]
        rfl
      rw [hmg] at hu
      obtain ⟨q1, q2⟩ := HL.out k hlt
      have U := hide hu
      have Q1 := hide q1
      have STP := hide (cpT_step xs k (by rw [XL.out]; exact hlt))
      have XGk := hide (XG.out k hlt)
      rw [XG.out k hlt] at STP
      generalize m.getD k [] = z at U Q1 q2 STP XGk
      have hlt' : (k : Int) < (m.length : Int) := by omega
      clear hown hb hmg hu q1
      obtain ⟨ua, uc, hu2, _⟩ := U.out
      rw [Gf.ci_length] at hu2
      subst hu2
      go_wp2_with fail
      refine (bodyOf_calls _ z _ U.out Q1.out q2).mono ?_
      rintro e w1 ⟨rfl, b1⟩
      have o1 := ownsRow_below O.out b1
      have hc2 : w1.frozen? ⟨w.heap.size, k, none⟩ = false := o1.frozenAt k
      obtain ⟨old, hc3⟩ : ∃ old, w1.cell? ⟨w.heap.size, k, none⟩ = some old := by
        rw [o1.cellAt k (by omega)]
        have := cpT_length xs k (by rw [XL.out]; exact hk)
        rw [XL.out] at this
        exact ⟨_, List.getElem?_eq_getElem (by simp; omega)⟩
      have KK := hide (o1.stored k (.string (ofN z))).1
      have B1 := hide ((HB.out.trans (b1.mono HB.out.size)).setCell (p := ⟨w.heap.size, k, none⟩) (Nat.le_refl _) (.string (ofN z)))
      clear o1 b1 hc
      generalize ofN z = zz at KK B1 STP ⊢
      go_wp2
      go_roundw
      case rel =>
        refine ⟨k + 1, by omega, by go_num, ?_, B1.out⟩
        have := KK.out
        rw [← List.map_set, STP.out] at this
        exact this
      case measure => simp [intOf]; omega
    · obtain rfl : k = m.length := by omega
      clear hown hb
      have o1 := O.out
      have e := cpT_end xs
      rw [XL.out] at e
      rw [e] at o1
      have O1 := hide o1
      clear o1
      go_wp2
      go_ret
      refine ⟨_, rfl, ?_, HB.out⟩
      show World.ownsRow _ _ _ _ _ xs.length _
      rw [XL.out]
      exact O1.out
end Go.Proofs.YtiojipicincgfaaDoor
end
section
namespace Go.Proofs.YtiojipicincgfaaDoor
open Go.RowKit
/-- One integer behind a row of the call's own, and where it lies then. -/
theorem wpList_append_int1 {w : World} {ops : Array Oper} {rest : List Oper} {o : Oper} {a : Act} {Q : Exit → Act → World → Prop} (hgd : o.guard = none) (s x : Operand)
    (ho : o.op = .call { callee := .builtin .append, args := #[s, x], argTypes := #[39, 39] })
    (base : Nat) (v : Value) (n : Nat) (xs : List Int) (z : Int) (hs : a.eval s = v) (hown : w.ownsRow base 3 1 v n (xs.map (Value.int .i64))) (gx : Nat) (hx : a.eval x = .slice (some ⟨gx, 0, none⟩) 1 1) (hc : w.cell? ⟨gx, 0, none⟩ = some (.int .i64 z))
    (hm : n ≤ 1000) (hbase : base ≤ w.heap.size)
    (h : ∀ g cap w', w'.ownsRow base 3 1 (.slice (some ⟨g, 0, none⟩) (n + 1) cap) (n + 1) ((xs ++ [z]).map (Value.int .i64)) → w.grownBy w' v.ownBlock → (v.ownBlock = some g ∨ g = w.heap.size) → g < w'.heap.size → wpList Tryd.prog ops Q rest (a.put o.dst (.slice (some ⟨g, 0, none⟩) (n + 1) cap)) w') : wpList Tryd.prog ops Q (o :: rest) a w := by
  obtain ⟨i0, hi, hz0, hz1, hz2⟩ := info_parts infoInt
  refine wpList_append_lies (w := w) hgd s x _ ho base _ i0 (.int .i64 0) 1 8 Tryd.underlying39 hi hz0 hz1 hz2 rfl (by decide) v n _ hs hown ⟨gx, 0, none⟩ 1 1 ([z].map (Value.int .i64)) hx (by simp) ?_ (ints_oneCell _ _) (by decide) (by unfold maxLen; omega) (by omega) hbase _ rfl ?_
  · intro j u hu
    have : j = 0 := by
      have := (List.getElem?_eq_some_iff.1 hu).1
      simpa using this
    subst this
    simp at hu
    subst hu
    simpa [Addr.add] using hc
  · intro g cap w' h1 h2 h3 h4
    rw [← List.map_append] at h1
    exact h g cap w' h1 h2 h3 h4
end Go.Proofs.YtiojipicincgfaaDoor
end
section
namespace Go.Proofs.YtiojipicincgfaaDoor
open Go.RowKit
open Gf (ci nat)
set_option linter.unusedVariables false

/-- The k-th sixteen bytes of a block. -/
def rowN (S : ByteArray) (k : Nat) : List Nat := ((blk S).drop (16 * k)).take 16
def datM (S : ByteArray) : List (List Int) := (List.range 3).map fun k => ci (rowN S k)
def pfR (S : ByteArray) : List (List Int) × Bool := if S.size ≤ 47 then (mulM (codeM 3 2) (datM S), true) else ([], false)
theorem rowN_length {S : ByteArray} (h : S.size ≤ 47) (k : Nat) (hk : k < 3) : (rowN S k).length = 16 := by
  unfold rowN
  rw [List.length_take, List.length_drop, blk_length h]
  omega
theorem rowN_small {S : ByteArray} (h : S.size ≤ 47) (k : Nat) : ∀ b ∈ rowN S k, b < 256 := fun b hb => blk_small h b (List.mem_of_mem_drop (List.mem_of_mem_take hb))
theorem rowN_get {S : ByteArray} (h : S.size ≤ 47) (k j : Nat) (hk : k < 3) (hj : j < 16) : (rowN S k).getD j 0 = (blk S).getD (k * 16 + j) 0 := by
  unfold rowN
  simp only [List.getD_eq_getElem?_getD]
  rw [List.getElem?_take, if_pos hj, List.getElem?_drop, Nat.mul_comm]
theorem datM_length (S : ByteArray) : (datM S).length = 3 := by simp [datM]
theorem datM_get (S : ByteArray) (k : Nat) (hk : k < 3) : (datM S).getD k [] = ci (rowN S k) := by
  unfold datM
  simp only [List.getD_eq_getElem?_getD]
  rw [List.getElem?_map, List.getElem?_range hk]
  rfl
theorem ci_el {l : List Nat} (h : ∀ b ∈ l, b < 256) : (ci l).all Gf.elOk = true := by
  rw [List.all_eq_true]
  intro x hx
  unfold ci at hx
  obtain ⟨b, hb, rfl⟩ := List.mem_map.1 hx
  have := h b hb
  simp only [Gf.elOk, decide_eq_true_eq]
  omega
theorem datM_ok {S : ByteArray} (h : S.size ≤ 47) : piecesOk (datM S) = true := by
  refine piecesOk_yes fun i hi => ?_
  rw [datM_length] at hi
  unfold pieceAt
  rw [datM_get S i hi, datM_get S 0 (by omega), Gf.ci_length, Gf.ci_length, rowN_length h i hi, rowN_length h 0 (by omega), ci_el (rowN_small h i)]
  rfl
theorem pf_enc {S : ByteArray} (h : S.size ≤ 47) : encR (datM S) 2 = pfR S := by
  unfold encR pfR encOk
  rw [if_pos h, datM_ok h, datM_length, if_pos (by decide)]
  rfl
theorem pf_split {S : ByteArray} (h : S.size ≤ 47) : (splR (ofN (blk S))).1.map (fun s : ByteArray => ci (bs s)) = datM S ∧ (splR (ofN (blk S))).1.length = 3 ∧ ∀ i, i < 3 → ((splR (ofN (blk S))).1.getD i ⟨#[]⟩).size ≤ 4096 := by
  have hz : (ofN (blk S)).size = 48 := by rw [ofN_size, blk_length h]
  have hb : bs (ofN (blk S)) = blk S := bs_ofN (blk_small h)
  have e : splR (ofN (blk S)) = (pcs (ofN (blk S)) 3, true) := by
    unfold splR many
    rw [hz, if_pos (by omega)]
  rw [e]
  have hpc : ∀ k, bs (pc (ofN (blk S)) k) = rowN S k := by
    intro k
    unfold pc rowN
    rw [hb]
    exact bs_ofN (fun b hb => blk_small h b (List.mem_of_mem_drop (List.mem_of_mem_take hb)))
  refine ⟨?_, pcs_length _ _, fun i hi => ?_⟩
  · show (pcs (ofN (blk S)) 3).map _ = _
    unfold pcs datM
    rw [List.map_map]
    apply List.map_congr_left
    intro k _
    show ci (bs (pc (ofN (blk S)) k)) = _
    rw [hpc]
  · have : (pcs (ofN (blk S)) 3).getD i ⟨#[]⟩ = pc (ofN (blk S)) i := by
      unfold pcs
      simp only [List.getD_eq_getElem?_getD]
      rw [List.getElem?_map, List.getElem?_range hi]
      rfl
    show ((pcs (ofN (blk S)) 3).getD i ⟨#[]⟩).size ≤ 4096
    rw [this, pc_size]
    omega
theorem pfR_tot (S : ByteArray) : (pfR S).1.length + tot (pfR S).1 ≤ 1048576 := by
  by_cases h : S.size ≤ 47
  · rw [← pf_enc h]
    exact encR_tot _ _
  · unfold pfR
    rw [if_neg h]
    simp [tot]

set_option maxRecDepth 100000 in
set_option maxHeartbeats 800000 in
theorem piecesFor_calls (S : ByteArray) (w : World) (hT : Gf.Tab w) (hS : S.size ≤ maxLen) :
    Calls Tryd.prog 6 #[.string S] w fun e w' => ∃ v', e = .returned (.tuple #[v', .bool (pfR S).2]) ∧ Mat w' w.heap.size w'.heap.size v' (pfR S).1 ∧ Below w.heap.size w w' := by
  unfold maxLen at hS
  have T := hide hT
  clear hT
  by_cases h : S.size ≤ 47
  · have E := hide (pf_enc h)
    obtain ⟨p1, p2, p3⟩ := pf_split h
    have C1 := hide (fun W => blockOf_calls S W h)
    have C2 := hide (fun W => splitBody_calls (ofN (blk S)) W (by rw [ofN_size, blk_length h]; unfold maxLen; omega))
    have P1 := hide p1
    have P2 := hide p2
    have P3 := hide p3
    rw [← E.out]
    generalize ofN (blk S) = B at C1 C2 P1 P2 P3
    generalize (splR B).2 = ok at C2
    generalize (splR B).1 = xs at C2 P1 P2 P3
    have h' : ¬ (47 : Int) < (S.size : Int) := by omega
    clear p1 p2 p3
    go_enter Tryd.func6, Tryd.ntmps6
    go_wp2_with fail
    refine (C1.out _).mono ?_
    rintro e w1 ⟨rfl, q1⟩
    have B1 := hide q1
    clear q1
    go_wp2_with fail
    refine (C2.out _).mono ?_
    rintro e w2 ⟨v2, rfl, o2, q2⟩
    have B2 := hide (B1.out.trans (q2.mono B1.out.size))
    have R2 := hide (OwnT.rd o2 (fun s hs => by
      obtain ⟨i, hi, rfl⟩ := List.getElem_of_mem hs
      have := P3.out i (by rw [← P2.out]; exact hi)
      rw [List.getD_eq_getElem?_getD, List.getElem?_eq_getElem hi, Option.getD_some] at this
      unfold maxLen
      omega))
    clear q2 o2
    go_wp2_with fail
    refine (eachElems_calls _ xs _ R2.out (fun i hi => P3.out i (by rw [← P2.out]; exact hi)) (by rw [P2.out]; omega)).mono ?_
    rintro e w3 ⟨v3, rfl, r3, q3⟩
    have B3 := hide (B2.out.trans (q3.mono B2.out.size))
    rw [P1.out] at r3
    have R3 := hide r3
    clear q3 r3 R2
    go_wp2_with fail
    refine (encodePieces_calls _ (datM S) 2 _ (Gf.Tab.below T.out B3.out) R3.out).mono ?_
    rintro e w4 ⟨v4, rfl, m4, q4⟩
    have M4 := hide (m4.wider B3.out.size (Nat.le_refl _))
    have B4 := hide (B3.out.trans (q4.mono B3.out.size))
    clear m4 q4
    go_wp2
    go_ret2
    exact ⟨_, rfl, M4.out, B4.out⟩
  · have e : pfR S = ([], false) := if_neg h
    rw [e]
    have h' : (47 : Int) < (S.size : Int) := by omega
    clear e
    go_enter Tryd.func6, Tryd.ntmps6
    go_wp2
    go_ret2
    exact ⟨_, rfl, Mat.nil _ _ _, Below.refl _ _⟩

theorem conv_zst (n : Nat) (W W' : World) (h : Below (W.alloc (.cells (madeCells #[.int .u8 0] n) 5)).heap.size (W.alloc (.cells (madeCells #[.int .u8 0] n) 5)) W') :
    (convert 51 9 (.slice (some ⟨W.heap.size, 0, none⟩) n n)).run Tryd.prog W' = .ok (.string (zst n)) W' := by
  have hz : ZRow W' W.heap.size (List.replicate n 0) := by
    unfold ZRow
    rw [h.block W.heap.size (by simp), heap_alloc_new]
    congr 2
    apply Array.ext'
    rw [toList_madeCells_one]
    simp [u8v]
  have := hz.conv (n := n) (cap := n) (fun y hy => by have := (List.mem_replicate.1 hy).2; omega) (by simp)
  rw [List.take_of_length_le (by simp)] at this
  rw [this]
  congr 2
  apply bs_inj
  rw [bs_zst, bs_ofN (fun y hy => by have := (List.mem_replicate.1 hy).2; omega)]

set_option linter.unusedSimpArgs false in
set_option maxRecDepth 100000 in
set_option maxHeartbeats 3200000 in
theorem l8Pieces_calls (S : ByteArray) (w : World) (h : S.size ≤ 47) :
    Calls Tryd.prog 14 #[.string S] w fun e w' => ∃ v', e = .returned v' ∧ Mat w' w.heap.size w'.heap.size v' (mulM (codeM 3 2) (datM S)) ∧ Below w.heap.size w w' := by
  have hs1 : (ofN (hiB S.size 1)).size = 1 := by rw [ofN_size, hiB_length]
  have C1 := hide (fun W => l6Bytes_calls S.size 1 W (by omega) (by omega))
  have hp : ofN (hiB S.size 1) ++ S ++ zst (47 - S.size) = ofN (blk S) := by
    have e1 : zst (47 - S.size) = ofN (List.replicate (47 - S.size) 0) := by
      apply bs_inj
      rw [bs_zst, bs_ofN (fun y hy => by have := (List.mem_replicate.1 hy).2; omega)]
    have e2 : hiB S.size 1 = [S.size] := by
      show [] ++ [S.size % 256] = [S.size]
      rw [List.nil_append, Nat.mod_eq_of_lt (by omega)]
    have e3 := ofN_append [S.size] (bs S)
    rw [ofN_bs] at e3
    rw [e1, e2, e3, ofN_append]
    rfl
  generalize ofN (hiB S.size 1) = T1 at hp hs1 C1
  have CV : Hid (∀ W W' : World, Below (W.alloc (.cells (madeCells #[.int .u8 0] (47 - S.size)) 5)).heap.size (W.alloc (.cells (madeCells #[.int .u8 0] (47 - S.size)) 5)) W' →
      (convert 51 9 (.slice (some ⟨W.heap.size, 0, none⟩) (47 - S.size) (47 - S.size))).run Tryd.prog W' = .ok (.string (zst (47 - S.size))) W') := fun W W' h => conv_zst (47 - S.size) W W' h
  have hz6 : (zst (47 - S.size)).size = 47 - S.size := zst_size _
  have A1 := fun W : World => run_string_add_sum (P := Tryd.prog) (w := W) T1 S (by omega)
  have A2 := fun W : World => run_string_add_sum (P := Tryd.prog) (w := W) (T1 ++ S) (zst (47 - S.size)) (by rw [ByteArray.size_append, hz6]; omega)
  have hmk : ∀ W : World, (Instr.makeSlice 51 (.int .i64 (47 - (S.size : Int))) (.int .i64 (47 - (S.size : Int)))).run Tryd.prog W = .ok (.slice (some ⟨W.heap.size, 0, none⟩) (47 - S.size) (47 - S.size)) (W.alloc (.cells (madeCells #[.int .u8 0] (47 - S.size)) 5)) := by
    intro W
    have e1 : (47 - (S.size : Int)) = ((47 - S.size : Nat) : Int) := by omega
    rw [e1]
    exact run_make_row' (P := Tryd.prog) 51 5 (.int .u8 0) 1 Tryd.underlying51 infoByte rfl .i64 .i64 (47 - S.size) (by omega) (by omega) W
  have hw1 : IntKind.i64.wrap (47 - (S.size : Int)) = 47 - (S.size : Int) := by rw [IntKind.wrap_i64]; omega
  have HP := hide hp
  have TB : Hid (bs (ofN (blk S)) = blk S) := bs_ofN (blk_small h)
  have tz : (ofN (blk S)).size = 48 := by rw [ofN_size, blk_length h]
  clear hp hs1 hz6
  obtain ⟨D, hD⟩ : ∃ D, D = datM S := ⟨_, rfl⟩
  have DL : Hid (D.length = 3) := by show _ = _; rw [hD, datM_length]
  have DG : Hid (∀ k, k < 3 → D.getD k [] = ci (rowN S k)) := by show ∀ k, _; intro k hk; rw [hD, datM_get S k hk]
  have DO : Hid (piecesOk D = true) := by show _ = _; rw [hD]; exact datM_ok h
  have RL := hide (fun k hk => rowN_length h k hk)
  have RG := hide (fun k j hk hj => rowN_get h k j hk hj)
  rw [← hD]
  clear hD
  go_enter Tryd.func14, Tryd.ntmps14
  go_upto_region 1 with fail
  go_cut [3] (fun s3 wx => s3 = .string (ofN (blk S)) ∧ Below w.heap.size w wx)
  case first =>
    refine wp_region_noPanic ?_
    refine wp_region_held_drew (S := fun _ => True) (by kernel_rfl) (trivial) (fun hHeld => ?_)
    have S0 := hide (Below.refl w.heap.size w).drew
    generalize w.drew = W0 at S0 hHeld ⊢
    refine wpAnyH_take (i := 0) (v := ?v1) rfl (by kernel_rfl) (by kernel_rfl) (by kernel_rfl) (fun _ _ _ h => h) (Or.inl ⟨by rfl, ?hy1⟩) (by assumption) ?rest1
    case hy1 => (intro w' hSw; dsimp only [List.getElem_toArray, List.getElem_cons_zero, List.getElem_cons_succ] at hSw ⊢; go_simp; try (with_reducible rfl))
    try simp only [Act.put, List.getElem_toArray, List.getElem_cons_zero, List.getElem_cons_succ, List.setIfInBounds_toArray, List.set_cons_zero, List.set_cons_succ]
    refine wpAnyH_take (i := 1) (v := ?v2) rfl (by kernel_rfl) (by kernel_rfl) (by kernel_rfl) (fun _ _ _ h => h) (Or.inl ⟨by rfl, ?hy2⟩) (by assumption) ?rest2
    case hy2 => (intro w' hSw; dsimp only [List.getElem_toArray, List.getElem_cons_zero, List.getElem_cons_succ] at hSw ⊢; go_simp; try (with_reducible rfl))
    try simp only [Act.put, List.getElem_toArray, List.getElem_cons_zero, List.getElem_cons_succ, List.setIfInBounds_toArray, List.set_cons_zero, List.set_cons_succ]
    refine wpAnyH_take (i := 3) (v := ?v3) rfl (by kernel_rfl) (by kernel_rfl) (by kernel_rfl) (fun _ _ _ h => h) (Or.inl ⟨by rfl, ?hy3⟩) (by assumption) ?rest3
    case hy3 => (intro w' hSw; dsimp only [List.getElem_toArray, List.getElem_cons_zero, List.getElem_cons_succ] at hSw ⊢; go_simp; try (with_reducible rfl))
    try simp only [Act.put, List.getElem_toArray, List.getElem_cons_zero, List.getElem_cons_succ, List.setIfInBounds_toArray, List.set_cons_zero, List.set_cons_succ]
    refine wpAnyH_take (i := 5) (v := ?v4) rfl (by kernel_rfl) (by kernel_rfl) (by kernel_rfl) (fun _ _ _ h => h) (Or.inl ⟨by rfl, ?hy4⟩) (by assumption) ?rest4
    case hy4 => (intro w' hSw; dsimp only [List.getElem_toArray, List.getElem_cons_zero, List.getElem_cons_succ] at hSw ⊢; go_simp; try (with_reducible rfl))
    try simp only [Act.put, List.getElem_toArray, List.getElem_cons_zero, List.getElem_cons_succ, List.setIfInBounds_toArray, List.set_cons_zero, List.set_cons_succ]
    refine wpAnyH_take (i := 6) (v := ?v5) rfl (by kernel_rfl) (by kernel_rfl) (by kernel_rfl) (fun _ _ _ h => h) (Or.inl ⟨by rfl, ?hy5⟩) (by assumption) ?rest5
    case hy5 => (intro w' hSw; dsimp only [List.getElem_toArray, List.getElem_cons_zero, List.getElem_cons_succ] at hSw ⊢; go_simp; try (with_reducible rfl))
    try simp only [Act.put, List.getElem_toArray, List.getElem_cons_zero, List.getElem_cons_succ, List.setIfInBounds_toArray, List.set_cons_zero, List.set_cons_succ]
    refine wpAnyH_take (i := 7) (v := ?v6) rfl (by kernel_rfl) (by kernel_rfl) (by kernel_rfl) (fun _ _ _ h => h) (Or.inl ⟨by rfl, ?hy6⟩) (by assumption) ?rest6
    case hy6 => (intro w' hSw; dsimp only [List.getElem_toArray, List.getElem_cons_zero, List.getElem_cons_succ] at hSw ⊢; go_simp; try (with_reducible rfl))
    try simp only [Act.put, List.getElem_toArray, List.getElem_cons_zero, List.getElem_cons_succ, List.setIfInBounds_toArray, List.set_cons_zero, List.set_cons_succ]
    refine wpAnyH_ready (rs := [2, 8]) (by kernel_rfl) (by simp) ?_
    refine AllReadyH.cons rfl (fun K hK => ?_) (AllReadyH.cons rfl (fun K hK => ?_) AllReadyH.nil)
    · dsimp only [List.getElem_toArray, List.getElem_cons_zero, List.getElem_cons_succ]
      go_simp
      refine (C1.out _).mono ?_
      rintro e' w1 ⟨rfl, bb⟩
      have S1 := hide (S0.out.trans (bb.mono S0.out.size))
      clear bb hHeld
      refine hK.out _ _ trivial (fun hHeld => ?_)
      clear hK K
      try simp only [Act.put, List.getElem_toArray, List.getElem_cons_zero, List.getElem_cons_succ, List.setIfInBounds_toArray, List.set_cons_zero, List.set_cons_succ]
      refine wpAnyH_take (i := 4) (v := ?v7) rfl (by kernel_rfl) (by kernel_rfl) (by kernel_rfl) (fun _ _ _ h => h) (Or.inl ⟨by rfl, ?hy7⟩) (by assumption) ?rest7
      case hy7 => (intro w' hSw; dsimp only [List.getElem_toArray, List.getElem_cons_zero, List.getElem_cons_succ] at hSw ⊢; go_simp; try (with_reducible rfl))
      try simp only [Act.put, List.getElem_toArray, List.getElem_cons_zero, List.getElem_cons_succ, List.setIfInBounds_toArray, List.set_cons_zero, List.set_cons_succ]
      refine wpAnyH_ready (rs := [8]) (by kernel_rfl) (by simp) ?_
      refine AllReadyH.cons rfl (fun K hK => ?_) AllReadyH.nil
      dsimp only [List.getElem_toArray, List.getElem_cons_zero, List.getElem_cons_succ]
      go_simp
      refine hK.out _ _ trivial (fun hHeld => ?_)
      clear hK K hHeld
      refine wpAnyH_imp (S' := fun w' => True ∧ (convert 51 9 (.slice (some ⟨w1.heap.size, 0, none⟩) (47 - S.size) (47 - S.size))).run Tryd.prog w' = .ok (.string (zst (47 - S.size))) w') (fun _ h => h.1) _ _ _ _ ?_
      have MM := hide (Below.refl (w1.alloc (.cells (madeCells #[.int .u8 0] (47 - S.size)) 5)).heap.size (w1.alloc (.cells (madeCells #[.int .u8 0] (47 - S.size)) 5)))
      have SM := hide (S1.out.alloc S1.out.size (.cells (madeCells #[.int .u8 0] (47 - S.size)) 5))
      have hHeld : (fun w' : World => True ∧ (convert 51 9 (.slice (some ⟨w1.heap.size, 0, none⟩) (47 - S.size) (47 - S.size))).run Tryd.prog w' = .ok (.string (zst (47 - S.size))) w') (w1.alloc (.cells (madeCells #[.int .u8 0] (47 - S.size)) 5)) := ⟨trivial, CV.out _ _ MM.out⟩
      try simp only [Act.put, List.getElem_toArray, List.getElem_cons_zero, List.getElem_cons_succ, List.setIfInBounds_toArray, List.set_cons_zero, List.set_cons_succ]
      refine wpAnyH_take (i := 9) (v := ?v8) rfl (by kernel_rfl) (by kernel_rfl) (by kernel_rfl) (fun _ _ _ h => h) (Or.inl ⟨by rfl, ?hy8⟩) (by assumption) ?rest8
      case hy8 => (intro w' hSw; dsimp only [List.getElem_toArray, List.getElem_cons_zero, List.getElem_cons_succ] at hSw ⊢; go_simp; try (with_reducible rfl))
      try simp only [Act.put, List.getElem_toArray, List.getElem_cons_zero, List.getElem_cons_succ, List.setIfInBounds_toArray, List.set_cons_zero, List.set_cons_succ]
      refine wpAnyH_take (i := 10) (v := ?v9) rfl (by kernel_rfl) (by kernel_rfl) (by kernel_rfl) (fun _ _ _ h => h) (Or.inl ⟨by rfl, ?hy9⟩) (by assumption) ?rest9
      case hy9 => (intro w' hSw; dsimp only [List.getElem_toArray, List.getElem_cons_zero, List.getElem_cons_succ] at hSw ⊢; go_simp; try (with_reducible rfl))
      try simp only [Act.put, List.getElem_toArray, List.getElem_cons_zero, List.getElem_cons_succ, List.setIfInBounds_toArray, List.set_cons_zero, List.set_cons_succ]
      refine wpAnyH_take (i := 11) (v := ?v10) rfl (by kernel_rfl) (by kernel_rfl) (by kernel_rfl) (fun _ _ _ h => h) (Or.inl ⟨by rfl, ?hy10⟩) (by assumption) ?rest10
      case hy10 => (intro w' hSw; dsimp only [List.getElem_toArray, List.getElem_cons_zero, List.getElem_cons_succ] at hSw ⊢; go_simp; try (with_reducible rfl))
      try simp only [Act.put, List.getElem_toArray, List.getElem_cons_zero, List.getElem_cons_succ, List.setIfInBounds_toArray, List.set_cons_zero, List.set_cons_succ]
      refine wpAnyH_done (by kernel_rfl) ?_ _
      refine NoPanic.normal ?_
      clear hHeld
      go_wp2_with fail
      go_meet
      exact ⟨by rw [HP.out], SM.out⟩
    · dsimp only [List.getElem_toArray, List.getElem_cons_zero, List.getElem_cons_succ]
      go_simp
      refine hK.out _ _ trivial (fun hHeld => ?_)
      clear hK K hHeld
      refine wpAnyH_imp (S' := fun w' => True ∧ (convert 51 9 (.slice (some ⟨W0.heap.size, 0, none⟩) (47 - S.size) (47 - S.size))).run Tryd.prog w' = .ok (.string (zst (47 - S.size))) w') (fun _ h => h.1) _ _ _ _ ?_
      have MM := hide (Below.refl (W0.alloc (.cells (madeCells #[.int .u8 0] (47 - S.size)) 5)).heap.size (W0.alloc (.cells (madeCells #[.int .u8 0] (47 - S.size)) 5)))
      have SM := hide (S0.out.alloc S0.out.size (.cells (madeCells #[.int .u8 0] (47 - S.size)) 5))
      have hHeld : (fun w' : World => True ∧ (convert 51 9 (.slice (some ⟨W0.heap.size, 0, none⟩) (47 - S.size) (47 - S.size))).run Tryd.prog w' = .ok (.string (zst (47 - S.size))) w') (W0.alloc (.cells (madeCells #[.int .u8 0] (47 - S.size)) 5)) := ⟨trivial, CV.out _ _ MM.out⟩
      try simp only [Act.put, List.getElem_toArray, List.getElem_cons_zero, List.getElem_cons_succ, List.setIfInBounds_toArray, List.set_cons_zero, List.set_cons_succ]
      refine wpAnyH_take (i := 9) (v := ?v11) rfl (by kernel_rfl) (by kernel_rfl) (by kernel_rfl) (fun _ _ _ h => h) (Or.inl ⟨by rfl, ?hy11⟩) (by assumption) ?rest11
      case hy11 => (intro w' hSw; dsimp only [List.getElem_toArray, List.getElem_cons_zero, List.getElem_cons_succ] at hSw ⊢; go_simp; try (with_reducible rfl))
      try simp only [Act.put, List.getElem_toArray, List.getElem_cons_zero, List.getElem_cons_succ, List.setIfInBounds_toArray, List.set_cons_zero, List.set_cons_succ]
      refine wpAnyH_ready (rs := [2]) (by kernel_rfl) (by simp) ?_
      refine AllReadyH.cons rfl (fun K hK => ?_) AllReadyH.nil
      dsimp only [List.getElem_toArray, List.getElem_cons_zero, List.getElem_cons_succ]
      go_simp
      refine (C1.out _).mono ?_
      rintro e' w1 ⟨rfl, bb⟩
      have M1 := hide (MM.out.trans (bb.mono MM.out.size))
      have S1 := hide (SM.out.trans (bb.mono SM.out.size))
      clear bb hHeld
      refine hK.out _ _ ⟨trivial, CV.out _ _ M1.out⟩ (fun hHeld => ?_)
      clear hK K
      try simp only [Act.put, List.getElem_toArray, List.getElem_cons_zero, List.getElem_cons_succ, List.setIfInBounds_toArray, List.set_cons_zero, List.set_cons_succ]
      refine wpAnyH_take (i := 4) (v := ?v12) rfl (by kernel_rfl) (by kernel_rfl) (by kernel_rfl) (fun _ _ _ h => h) (Or.inl ⟨by rfl, ?hy12⟩) (by assumption) ?rest12
      case hy12 => (intro w' hSw; dsimp only [List.getElem_toArray, List.getElem_cons_zero, List.getElem_cons_succ] at hSw ⊢; go_simp; try (with_reducible rfl))
      try simp only [Act.put, List.getElem_toArray, List.getElem_cons_zero, List.getElem_cons_succ, List.setIfInBounds_toArray, List.set_cons_zero, List.set_cons_succ]
      refine wpAnyH_take (i := 10) (v := ?v13) rfl (by kernel_rfl) (by kernel_rfl) (by kernel_rfl) (fun _ _ _ h => h) (Or.inl ⟨by rfl, ?hy13⟩) (by assumption) ?rest13
      case hy13 => (intro w' hSw; dsimp only [List.getElem_toArray, List.getElem_cons_zero, List.getElem_cons_succ] at hSw ⊢; go_simp; try (with_reducible rfl))
      try simp only [Act.put, List.getElem_toArray, List.getElem_cons_zero, List.getElem_cons_succ, List.setIfInBounds_toArray, List.set_cons_zero, List.set_cons_succ]
      refine wpAnyH_take (i := 11) (v := ?v14) rfl (by kernel_rfl) (by kernel_rfl) (by kernel_rfl) (fun _ _ _ h => h) (Or.inl ⟨by rfl, ?hy14⟩) (by assumption) ?rest14
      case hy14 => (intro w' hSw; dsimp only [List.getElem_toArray, List.getElem_cons_zero, List.getElem_cons_succ] at hSw ⊢; go_simp; try (with_reducible rfl))
      try simp only [Act.put, List.getElem_toArray, List.getElem_cons_zero, List.getElem_cons_succ, List.setIfInBounds_toArray, List.set_cons_zero, List.set_cons_succ]
      refine wpAnyH_done (by kernel_rfl) ?_ _
      refine NoPanic.normal ?_
      clear hHeld
      go_wp2_with fail
      go_meet
      exact ⟨by rw [HP.out], S1.out⟩
  case rest =>
    clear A1 A2 hmk hw1 CV C1 HP
    obtain ⟨rfl, hb⟩ := hcut
    have B0 := hide hb
    clear hb
    generalize hTT : ofN (blk S) = T at *
    have TB2 : Hid (bs T = blk S) := TB.out
    have TZ : Hid (T.size = 48) := tz
    clear hTT TB tz
    go_wp2
    go_loopw [4, 5, 6, 7] (fun vd vk _ _ wr => ∃ (k : Nat) (vs : List Value), k ≤ 3 ∧ vk = .int .i64 k ∧ MatV wr w.heap.size wr.heap.size vd vs (D.take k) ∧ Below w.heap.size w wr) (fun _ vk _ _ _ => 3 - (intOf vk).toNat)
    case atStart =>
      obtain ⟨vs, hv⟩ := Mat.nil wc w.heap.size wc.heap.size
      exact ⟨0, vs, Nat.zero_le _, rfl, hv, B0.out⟩
    case round =>
      obtain ⟨k, vs, hk, rfl, hm, hb⟩ := hrel
      obtain ⟨Wr, rfl⟩ : ∃ W1, W1 = wr := ⟨_, rfl⟩
      obtain ⟨ad, cd, hvd⟩ := row_slice hm.head
      obtain ⟨nd, hnd⟩ : ∃ nd, nd = (D.take k).length := ⟨_, rfl⟩
      have hnd3 : nd ≤ 3 := by rw [hnd, List.length_take]; omega
      rw [← hnd] at hvd
      subst hvd
      have M := hide hm
      have B := hide hb
      have s1 := hb.size
      clear hm hb hnd
      by_cases hlt : k < 3
      · have hlt' : (k : Int) < 3 := by omega
        have RLk := hide (RL.out k hlt)
        have RGk := hide (fun j hj => RG.out k j hlt hj)
        have NX : Hid (D.take (k + 1) = D.take k ++ [ci (rowN S k)]) := by
          show _ = _
          rw [List.take_succ_eq_append_getElem (by rw [DL.out]; exact hlt)]
          have := DG.out k hlt
          rw [List.getD_eq_getElem?_getD, List.getElem?_eq_getElem (by rw [DL.out]; exact hlt), Option.getD_some] at this
          rw [this]
        generalize rowN S k = row at RLk RGk NX
        go_wp2
        go_loopw [6, 7] (fun vp vi wt => ∃ (j : Nat), j ≤ 16 ∧ vi = .int .i64 j ∧ Own wt Wr.heap.size vp (ci (row.take j)) ∧ Below Wr.heap.size Wr wt) (fun _ vi _ => 16 - (intOf vi).toNat)
        case atStart => exact ⟨0, Nat.zero_le _, rfl, World.ownsRow_nil _ _ _ _, Below.refl _ _⟩
        case round =>
          obtain ⟨j, hj, rfl, ho, hbt⟩ := hrel
          obtain ⟨ap, cp, hvp⟩ := row_slice ho
          have hln : (ci (row.take j)).length = j := by rw [Gf.ci_length, List.length_take, RLk.out]; omega
          rw [hln] at hvp
          subst hvp
          have ho' : wr.ownsRow Wr.heap.size 3 1 (.slice ap j cp) j ((ci (row.take j)).map (Value.int .i64)) := by
            have := ho
            unfold Own at this
            rw [hln] at this
            exact this
          have O := hide ho'
          have OF := hide ho
          have BT := hide hbt
          have s2 := hbt.size
          clear ho ho' hln hbt
          by_cases hltj : j < 16
          · have hltj' : (j : Int) < 16 := by omega
            have hix : (k : Int) * 16 + (j : Int) < (T.size : Int) := by rw [TZ.out]; omega
            have hix0 : (0 : Int) ≤ (k : Int) * 16 + (j : Int) := by omega
            have hixn : k * 16 + j < T.size := by rw [TZ.out]; omega
            obtain ⟨byt, hbz⟩ : ∃ byt, byt = T[k * 16 + j].toNat := ⟨_, rfl⟩
            have hb256 : byt < 256 := by rw [hbz]; exact (T[k * 16 + j]).toNat_lt
            have hbyt : byt = row.getD j 0 := by
              rw [hbz, RGk.out j hltj, ← TB2.out]
              exact (bs_getD T (k * 16 + j) hixn).symm
            have hbz' := hbz.symm
            have NXj : Hid (ci (row.take (j + 1)) = ci (row.take j) ++ [(byt : Int)]) := by
              show _ = _
              rw [take_snoc row j (by rw [RLk.out]; exact hltj), ← hbyt]
              simp [ci]
            clear hbz hbyt
            go_wp2_with (at_builtin; refine wpList_append_int1 rfl _ _ rfl Wr.heap.size _ j (ci (row.take j)) byt rfl (ownsRow_below O.out (below_box _ _)) wr.heap.size rfl (World.cell?_alloc_at _ _ _ _ (by simp)) (by omega) (by simp; omega) ?_)
            intro g4 c4 w4 o4 p4 q4 r4
            have HL4 : Hid ((ci (row.take (j + 1))).length = j + 1) := by show _ = _; rw [Gf.ci_length, List.length_take, RLk.out]; omega
            have O4 : Hid (Own w4 Wr.heap.size (.slice (some ⟨g4, 0, none⟩) (j + 1) c4) (ci (row.take (j + 1)))) := by
              show World.ownsRow _ _ _ _ _ (ci (row.take (j + 1))).length _
              rw [HL4.out, NXj.out, List.map_append]
              exact o4
            have B4 : Hid (Below Wr.heap.size Wr w4) := (BT.out.alloc BT.out.size _).grown p4 (by simp; omega) (fun z hz => (World.ownsRow.lt O.out z hz).1)
            clear o4 p4 q4 r4 O OF BT
            go_wp2
            go_roundw
            case rel => exact ⟨j + 1, by omega, by go_num, O4.out, B4.out⟩
            case measure => simp [intOf]; omega
          · obtain rfl : j = 16 := by omega
            have of2 := OF.out
            rw [List.take_of_length_le (by rw [RLk.out]; exact Nat.le_refl _)] at of2
            have OF2 := hide of2
            clear of2 OF O
            go_wp2_with (at_builtin; refine wpList_append_row rfl _ _ rfl w.heap.size Wr.heap.size _ vs (D.take k) rfl M.out (BT.out.alloc BT.out.size _) _ _ (OF2.out.below ((Below.refl _ _).alloc (Nat.le_refl _) _)) (Nat.le_refl _) s1 _ rfl (World.cell?_alloc_at _ _ _ _ (by simp)) (by simp; omega) ?_)
            intro v2 w2 hM2 hB2
            rw [← NX.out] at hM2
            have M2 := hide hM2
            have B2 := hide (B.out.trans hB2)
            clear hM2 hB2
            go_wp2
            go_roundw
            case rel => exact ⟨k + 1, _, by omega, by go_num, M2.out, B2.out⟩
            case measure => simp [intOf]; omega
      · obtain rfl : k = 3 := by omega
        have m2 := M.out
        rw [List.take_of_length_le (by rw [DL.out]; exact Nat.le_refl _)] at m2
        have RM := hide m2.rd
        have C := hide (fun W v (hv : RdM W v D) => l3Encode_calls v D 2 W hv DO.out (by rw [DL.out]; omega) (by rw [DL.out]; omega) (by omega) (by omega))
        rw [DL.out] at C
        clear m2
        go_wp2_with fail
        refine (C.out _ _ RM.out).mono ?_
        rintro e w5 ⟨v5, rfl, m5, q5⟩
        have M5 := hide (m5.wider s1 (Nat.le_refl _))
        have B5 := hide (B.out.trans (q5.mono s1))
        clear m5 q5
        go_wp2
        go_ret
        exact ⟨_, rfl, M5.out, B5.out⟩

set_option maxRecDepth 100000 in
theorem sPiecesFor_calls (S : ByteArray) (w : World) (hS : S.size ≤ maxLen) :
    Calls Tryd.prog 5 #[.string S] w fun e w' => ∃ v', e = .returned (.tuple #[v', .bool (pfR S).2]) ∧ Mat w' w.heap.size w'.heap.size v' (pfR S).1 ∧ Below w.heap.size w w' := by
  unfold maxLen at hS
  by_cases h : S.size ≤ 47
  · have e : pfR S = (mulM (codeM 3 2) (datM S), true) := if_pos h
    rw [e]
    have C1 := hide (fun W => l8Pieces_calls S W h)
    have h' : ¬ (47 : Int) < (S.size : Int) := by omega
    clear e
    go_enter Tryd.func5, Tryd.ntmps5
    go_wp2_with fail
    refine (C1.out _).mono ?_
    rintro e w4 ⟨v4, rfl, m4, q4⟩
    have M4 := hide m4
    have B4 := hide q4
    clear m4 q4
    go_wp2
    go_ret2
    exact ⟨_, rfl, M4.out, B4.out⟩
  · have e : pfR S = ([], false) := if_neg h
    rw [e]
    have h' : (47 : Int) < (S.size : Int) := by omega
    clear e
    go_enter Tryd.func5, Tryd.ntmps5
    go_wp2
    go_ret2
    exact ⟨_, rfl, Mat.nil _ _ _, Below.refl _ _⟩
end Go.Proofs.YtiojipicincgfaaDoor
end
section
namespace Go.Proofs.YtiojipicincgfaaDoor
open Go.RowKit
open Gf (ci nat)
set_option linter.unusedVariables false

/-- The bytes of the first three rows. -/
def tfL (m : List (List Int)) : List Nat := (m.take 3).flatMap nat
def tfOk (m : List (List Int)) : Bool := (chkR 3 2 m).1 && decide ((m.getD 0 []).length = 16)
def tfN (m : List (List Int)) : Nat := (tfL m).getD 0 0
/-- The first byte and the noughts are such as a block has. -/
def tfP (m : List (List Int)) : Prop := tfN m ≤ 47 ∧ (tfL m).drop (1 + tfN m) = List.replicate (47 - tfN m) 0
def tfT (m : List (List Int)) : ByteArray := ofN (((tfL m).drop 1).take (tfN m))
theorem tf_bool (m : List (List Int)) : ∃ y : Bool, y = true ↔ tfP m := by
  by_cases h : tfP m
  · exact ⟨true, by simp [h]⟩
  · exact ⟨false, by simp [h]⟩
/-- Rows of sixteen elements, five of them. -/
structure R16 (m : List (List Int)) : Prop where
  len : m.length = 5
  row : ∀ i, i < 5 → (m.getD i []).length = 16 ∧ (m.getD i []).all Gf.elOk = true
theorem tf_r16 {m : List (List Int)} (h : tfOk m = true) : R16 m ∧ chkR 3 2 m = (true, true) := by
  unfold tfOk at h
  simp only [Bool.and_eq_true, decide_eq_true_eq] at h
  have hc : chkOk 3 2 m = true := by
    cases hh : chkOk 3 2 m with
    | true => rfl
    | false =>
      have := h.1
      unfold chkR at this
      rw [if_neg (by rw [hh]; simp)] at this
      simp at this
  obtain ⟨_, h2, h3⟩ := chkOk_facts hc
  have hl : m.length = 5 := by omega
  refine ⟨⟨hl, fun i hi => ?_⟩, ?_⟩
  · have := piecesOk_at h3 i (by omega)
    exact ⟨by rw [this.1]; exact h.2, this.2.2⟩
  · have h1 := h.1
    unfold chkR at h1 ⊢
    rw [if_pos hc] at h1 ⊢
    exact Prod.ext h1 rfl
theorem R16.nats {m : List (List Int)} (h : R16 m) (i : Nat) (hi : i < 5) : (nat (m.getD i [])).length = 16 ∧ (∀ b ∈ nat (m.getD i []), b < 256) ∧ ci (nat (m.getD i [])) = m.getD i [] := by
  obtain ⟨h1, h2⟩ := h.row i hi
  refine ⟨by rw [Gf.nat_length]; exact h1, fun b hb => ?_, Gf.ci_nat h2⟩
  unfold nat at hb
  obtain ⟨x, hx, rfl⟩ := List.mem_map.1 hb
  have := Gf.elOk_iff.1 (List.all_eq_true.1 h2 x hx)
  omega
theorem R16.three {m : List (List Int)} (h : R16 m) : m.take 3 = [m.getD 0 [], m.getD 1 [], m.getD 2 []] := by
  have hl := h.len
  match m, hl with
  | [a, b, c, d, e], _ => rfl
theorem R16.L {m : List (List Int)} (h : R16 m) : tfL m = nat (m.getD 0 []) ++ (nat (m.getD 1 []) ++ nat (m.getD 2 [])) := by
  unfold tfL
  rw [h.three]
  simp
theorem R16.len48 {m : List (List Int)} (h : R16 m) : (tfL m).length = 48 := by
  rw [h.L, List.length_append, List.length_append, (h.nats 0 (by omega)).1, (h.nats 1 (by omega)).1, (h.nats 2 (by omega)).1]
theorem R16.small {m : List (List Int)} (h : R16 m) : ∀ b ∈ tfL m, b < 256 := by
  intro b hb
  rw [h.L] at hb
  rcases List.mem_append.1 hb with hb | hb
  · exact (h.nats 0 (by omega)).2.1 b hb
  · rcases List.mem_append.1 hb with hb | hb
    · exact (h.nats 1 (by omega)).2.1 b hb
    · exact (h.nats 2 (by omega)).2.1 b hb
theorem ext_mid (l : List Nat) (a b : Nat) : (ofN l).extract a b = ofN ((l.drop a).take (b - a)) := by
  have e := ByteArray.extract_mk (l.map UInt8.ofNat) a b
  unfold ofN
  rw [List.map_take, List.map_drop]
  exact e
theorem tfT_size {m : List (List Int)} (h : R16 m) (hn : tfN m ≤ 47) : (tfT m).size = tfN m := by
  unfold tfT
  rw [ofN_size, List.length_take, List.length_drop, h.len48]
  omega
/-- The text's block is the block just where the noughts are such. -/
theorem tf_blk {m : List (List Int)} (h : R16 m) (hn : tfN m ≤ 47) : ofN (blk (tfT m)) = ofN (tfL m) ↔ tfP m := by
  have hs := tfT_size h hn
  have hb : bs (tfT m) = ((tfL m).drop 1).take (tfN m) := bs_ofN (fun b hb => h.small b (List.mem_of_mem_drop (List.mem_of_mem_take hb)))
  have e1 : ofN (blk (tfT m)) = ofN (tfL m) ↔ blk (tfT m) = tfL m := by
    constructor
    · intro e
      have := congrArg bs e
      rw [bs_ofN (blk_small (by omega)), bs_ofN h.small] at this
      exact this
    · intro e
      rw [e]
  rw [e1]
  unfold blk tfP
  rw [hs, hb]
  have hl := h.len48
  obtain ⟨x, r, hr⟩ : ∃ x r, tfL m = x :: r := by
    cases hh : tfL m with
    | nil => rw [hh] at hl; simp at hl
    | cons x r => exact ⟨x, r, rfl⟩
  have hx : tfN m = x := by unfold tfN; rw [hr]; rfl
  rw [hr, hx]
  rw [hx] at hn
  have hrl : r.length = 47 := by rw [hr] at hl; simpa using hl
  constructor
  · intro e
    refine ⟨hn, ?_⟩
    simp only [List.drop_succ_cons, List.drop_zero, List.cons.injEq, true_and] at e
    rw [Nat.add_comm, List.drop_succ_cons]
    have : (r.take x ++ List.replicate (47 - x) 0).drop x = List.replicate (47 - x) 0 := by
      rw [List.drop_append_of_le_length (by rw [List.length_take]; omega), List.drop_eq_nil_of_le (by rw [List.length_take]; omega), List.nil_append]
    rw [← e] 
    exact this
  · rintro ⟨_, e⟩
    rw [Nat.add_comm, List.drop_succ_cons] at e
    simp only [List.drop_succ_cons, List.drop_zero, List.cons.injEq, true_and]
    rw [← e, List.take_append_drop]
theorem tf_join {m : List (List Int)} (h : R16 m) : jnbR ([nat (m.getD 0 []), nat (m.getD 1 []), nat (m.getD 2 [])].map ofN) = (ofN (tfL m), true) := by
  have n0 := h.nats 0 (by omega)
  have n1 := h.nats 1 (by omega)
  have n2 := h.nats 2 (by omega)
  unfold jnbR
  rw [if_pos]
  · congr 1
    rw [h.L]
    show ofN (fl [ofN _, ofN _, ofN _]) = _
    unfold fl
    simp only [List.flatMap_cons, List.flatMap_nil, List.append_nil]
    rw [bs_ofN n0.2.1, bs_ofN n1.2.1, bs_ofN n2.2.1]
  · refine ⟨by simp, fun i hi => ?_⟩
    have h3 : i < 3 := by simpa using hi
    have hz : (([nat (m.getD 0 []), nat (m.getD 1 []), nat (m.getD 2 [])].map ofN).getD i ⟨#[]⟩).size = 16 := by
      match i, h3 with
      | 0, _ => show (ofN (nat (m.getD 0 []))).size = 16; rw [ofN_size]; exact n0.1
      | 1, _ => show (ofN (nat (m.getD 1 []))).size = 16; rw [ofN_size]; exact n1.1
      | 2, _ => show (ofN (nat (m.getD 2 []))).size = 16; rw [ofN_size]; exact n2.1
    exact ⟨by omega, fun _ => hz⟩
theorem tf_all {m : List (List Int)} (h : tfOk m = true) : (m.all fun r : List Int => decide ((r.length : Int) = 16)) = true := by
  obtain ⟨r, _⟩ := tf_r16 h
  rw [List.all_eq_true]
  intro x hx
  obtain ⟨i, hi, rfl⟩ := List.getElem_of_mem hx
  have := (r.row i (by rw [← r.len]; exact hi)).1
  rw [List.getD_eq_getElem?_getD, List.getElem?_eq_getElem hi, Option.getD_some] at this
  rw [decide_eq_true_eq]
  omega
/-- Where the program goes on it may. -/
theorem tf_back {m : List (List Int)} (h : (m.all fun r : List Int => decide ((r.length : Int) = 16)) = true) (hc : (chkR 3 2 m).1 = true) : tfOk m = true := by
  have hco : chkOk 3 2 m = true := by
    cases hh : chkOk 3 2 m with
    | true => rfl
    | false =>
      unfold chkR at hc
      rw [if_neg (by rw [hh]; simp)] at hc
      simp at hc
  obtain ⟨_, h2, h3⟩ := chkOk_facts hco
  unfold tfOk
  rw [hc, Bool.true_and, decide_eq_true_eq]
  have hx : m.getD 0 [] ∈ m := by
    rw [List.getD_eq_getElem?_getD, List.getElem?_eq_getElem (by omega)]
    exact List.getElem_mem _
  have := List.all_eq_true.1 h _ hx
  rw [decide_eq_true_eq] at this
  omega
def tfR (m : List (List Int)) (y : Bool) : ByteArray × Bool := if tfOk m = true ∧ y = true then (tfT m, true) else (⟨#[]⟩, false)
theorem map3 {m : List (List Int)} (h : R16 m) : [nat (m.getD 0 []), nat (m.getD 1 []), nat (m.getD 2 [])].map ci = m.take 3 := by
  rw [h.three]
  simp only [List.map_cons, List.map_nil]
  rw [(h.nats 0 (by omega)).2.2, (h.nats 1 (by omega)).2.2, (h.nats 2 (by omega)).2.2]

set_option maxRecDepth 100000 in
set_option maxHeartbeats 1600000 in
theorem textFrom_calls (v : Value) (m : List (List Int)) (y : Bool) (w : World) (hy : y = true ↔ tfP m) (hT : Gf.Tab w) (h : RdM w v m) :
    Calls Tryd.prog 13 #[v] w fun e w' => e = .returned (.tuple #[.string (tfR m y).1, .bool (tfR m y).2]) ∧ Below w.heap.size w w' := by
  have R := hide h
  have T := hide hT
  have HY := hide hy
  obtain ⟨a, cap, rfl, m1, ⟨m2, m2'⟩, m3⟩ := h
  clear hT hy m3
  have C1 := hide (fun W v h => areAllLong_calls v m 16 W h)
  have C2 := hide (fun W v hT h => checkPieces_calls 3 2 v m W hT h)
  by_cases hok : tfOk m = true
  case neg =>
    have er : tfR m y = (⟨#[]⟩, false) := if_neg (fun h => hok h.1)
    rw [er]
    have NB : Hid ((m.all fun r : List Int => decide ((r.length : Int) = 16)) = true → (chkR 3 2 m).1 = false) := fun h1 => by
      cases hc : (chkR 3 2 m).1 with
      | false => rfl
      | true => exact absurd (tf_back h1 hc) hok
    clear er hok
    generalize (m.all fun r : List Int => decide ((r.length : Int) = 16)) = g1 at C1 NB
    generalize (chkR 3 2 m).1 = g2 at C2 NB
    generalize (chkR 3 2 m).2 = g3 at C2
    cases g1 with
    | false =>
      go_enter Tryd.func13, Tryd.ntmps13
      go_wp2_with fail
      refine (C1.out _ _ R.out).mono ?_
      rintro e w1 ⟨rfl, q⟩
      have B1 := hide q
      clear q
      go_wp2
      go_ret2
      exact ⟨rfl, B1.out⟩
    | true =>
      obtain rfl := NB.out rfl
      go_enter Tryd.func13, Tryd.ntmps13
      go_wp2_with fail
      refine (C1.out _ _ R.out).mono ?_
      rintro e w1 ⟨rfl, q⟩
      have B1 := hide q
      clear q
      go_wp2_with fail
      refine (C2.out _ _ (Gf.Tab.below T.out B1.out) (R.out.below B1.out)).mono ?_
      rintro e w2 ⟨rfl, q⟩
      have B2 := hide (B1.out.trans (q.mono B1.out.size))
      clear q
      go_wp2
      go_ret2
      exact ⟨rfl, B2.out⟩
  obtain ⟨r16, hck⟩ := tf_r16 hok
  have hall := tf_all hok
  rw [hall] at C1
  rw [hck] at C2
  have c5 : (3 : Int) ≤ (cap : Int) := by have := r16.len; omega
  have RT := hide (rdM_take R.out 3 (by rw [r16.len]; omega))
  rw [← map3 r16] at RT
  have C3 := hide (fun W hh => eachBody_calls (.slice a 3 cap) [nat (m.getD 0 []), nat (m.getD 1 []), nat (m.getD 2 [])] W hh (fun i hi => by
    have h3 : i < 3 := by simpa using hi
    match i, h3 with
    | 0, _ => exact ⟨(r16.nats 0 (by omega)).2.1, by show (nat (m.getD 0 [])).length ≤ 4096; rw [(r16.nats 0 (by omega)).1]; omega⟩
    | 1, _ => exact ⟨(r16.nats 1 (by omega)).2.1, by show (nat (m.getD 1 [])).length ≤ 4096; rw [(r16.nats 1 (by omega)).1]; omega⟩
    | 2, _ => exact ⟨(r16.nats 2 (by omega)).2.1, by show (nat (m.getD 2 [])).length ≤ 4096; rw [(r16.nats 2 (by omega)).1]; omega⟩) (by simp))
  have C4 := hide (fun W v hv => joinBody_calls v ([nat (m.getD 0 []), nat (m.getD 1 []), nat (m.getD 2 [])].map ofN) W hv)
  rw [tf_join r16] at C4
  have OS : Hid (∀ s ∈ ([nat (m.getD 0 []), nat (m.getD 1 []), nat (m.getD 2 [])].map ofN), s.size ≤ maxLen) := by
    show ∀ s ∈ _, _
    intro s hs
    simp only [List.map_cons, List.map_nil, List.mem_cons, List.not_mem_nil, or_false] at hs
    rcases hs with rfl | rfl | rfl
    · rw [ofN_size, (r16.nats 0 (by omega)).1]; unfold maxLen; omega
    · rw [ofN_size, (r16.nats 1 (by omega)).1]; unfold maxLen; omega
    · rw [ofN_size, (r16.nats 2 (by omega)).1]; unfold maxLen; omega
  generalize [nat (m.getD 0 []), nat (m.getD 1 []), nat (m.getD 2 [])] = mm at RT C3 C4 OS
  have EXT := hide (ext_mid (tfL m) 1 (1 + tfN m))
  have BKK := hide (fun hn => tf_blk r16 hn)
  have BSB := hide (bs_ofN r16.small)
  have TZ : Hid ((ofN (tfL m)).size = 48) := by show _ = _; rw [ofN_size, r16.len48]
  generalize ofN (tfL m) = BB at EXT BKK BSB TZ C4
  have z0 : 0 < BB.size := by rw [TZ.out]; omega
  have z1 : (0 : Int) < (BB.size : Int) := by omega
  have hb0 : BB[0].toNat = tfN m := by
    have := bs_getD BB 0 z0
    rw [BSB.out] at this
    exact this.symm
  have hn256 : tfN m < 256 := by rw [← hb0]; exact BB[0].toNat_lt
  have e2 : 1 + tfN m - 1 = tfN m := by omega
  rw [e2] at EXT
  by_cases hn : tfN m ≤ 47
  case neg =>
    have yf : y = false := by
      cases y with
      | false => rfl
      | true => exact absurd (HY.out.1 rfl).1 hn
    have er : tfR m y = (⟨#[]⟩, false) := if_neg (fun h => by rw [yf] at h; simp at h)
    rw [er]
    clear BKK
    generalize tfN m = n at *
    have hn' : (47 : Int) < (n : Int) := by omega
    clear er hok hck hall r16 e2
    go_enter Tryd.func13, Tryd.ntmps13
    go_wp2_with fail
    refine (C1.out _ _ R.out).mono ?_
    rintro e w1 ⟨rfl, q⟩
    have B1 := hide q
    clear q
    go_wp2_with fail
    refine (C2.out _ _ (Gf.Tab.below T.out B1.out) (R.out.below B1.out)).mono ?_
    rintro e w2 ⟨rfl, q⟩
    have B2 := hide (B1.out.trans (q.mono B1.out.size))
    clear q
    go_wp2_with fail
    refine (C3.out _ (RT.out.below B2.out)).mono ?_
    rintro e w3 ⟨v3, rfl, o3, q⟩
    have B3 := hide (B2.out.trans (q.mono B2.out.size))
    have R3 := hide (OwnT.rd o3 OS.out)
    clear q o3
    go_wp2_with fail
    refine (C4.out _ _ R3.out).mono ?_
    rintro e w4 ⟨rfl, q⟩
    have B4 := hide (B3.out.trans (q.mono B3.out.size))
    clear q
    go_wp2
    go_ret2
    exact ⟨rfl, B4.out⟩
  have TS := hide (tfT_size r16 hn)
  have BK := hide (BKK.out hn)
  have C5 := hide (fun W => blockOf_calls (tfT m) W (by rw [TS.out]; exact hn))
  have EX2 : Hid (BB.extract 1 (1 + tfN m) = tfT m) := EXT.out
  have er : tfR m y = if y = true then (tfT m, true) else (⟨#[]⟩, false) := by
    unfold tfR
    cases y <;> simp [hok]
  rw [er]
  clear BKK
  generalize tfN m = n at *
  generalize tfT m = TT at *
  generalize ofN (blk TT) = CC at *
  have hn' : ¬ (47 : Int) < (n : Int) := by omega
  have i1 : (1 : Int) ≤ 1 + (n : Int) := by omega
  have i2 : 1 + (n : Int) ≤ (BB.size : Int) := by rw [TZ.out]; omega
  clear er hok hck hall r16 e2 EXT BSB
  have YB : Hid (y = true ↔ CC = BB) := ⟨fun h => BK.out.2 (HY.out.1 h), fun h => HY.out.2 (BK.out.1 h)⟩
  clear BK HY
  cases y with
  | true =>
    have ec := YB.out.1 rfl
    rw [if_pos rfl]
    subst ec
    go_enter Tryd.func13, Tryd.ntmps13
    go_wp2_with fail
    refine (C1.out _ _ R.out).mono ?_
    rintro e w1 ⟨rfl, q⟩
    have B1 := hide q
    clear q
    go_wp2_with fail
    refine (C2.out _ _ (Gf.Tab.below T.out B1.out) (R.out.below B1.out)).mono ?_
    rintro e w2 ⟨rfl, q⟩
    have B2 := hide (B1.out.trans (q.mono B1.out.size))
    clear q
    go_wp2_with fail
    refine (C3.out _ (RT.out.below B2.out)).mono ?_
    rintro e w3 ⟨v3, rfl, o3, q⟩
    have B3 := hide (B2.out.trans (q.mono B2.out.size))
    have R3 := hide (OwnT.rd o3 OS.out)
    clear q o3
    go_wp2_with fail
    refine (C4.out _ _ R3.out).mono ?_
    rintro e w4 ⟨rfl, q⟩
    have B4 := hide (B3.out.trans (q.mono B3.out.size))
    clear q
    go_wp2_with fail
    rw [EX2.out]
    refine (C5.out _).mono ?_
    rintro e w5 ⟨rfl, q⟩
    have B5 := hide (B4.out.trans (q.mono B4.out.size))
    clear q
    go_wp2
    go_ret2
    exact ⟨rfl, B5.out⟩
  | false =>
    have ec : ¬ CC = BB := fun h => by have := YB.out.2 h; simp at this
    have ec1 : ¬ CC.toList = BB.toList := fun h => ec (toList_inj h)
    have ec2 : (CC.toList == BB.toList) = false := by simpa using ec1
    rw [if_neg (by simp)]
    go_enter Tryd.func13, Tryd.ntmps13
    go_wp2_with fail
    refine (C1.out _ _ R.out).mono ?_
    rintro e w1 ⟨rfl, q⟩
    have B1 := hide q
    clear q
    go_wp2_with fail
    refine (C2.out _ _ (Gf.Tab.below T.out B1.out) (R.out.below B1.out)).mono ?_
    rintro e w2 ⟨rfl, q⟩
    have B2 := hide (B1.out.trans (q.mono B1.out.size))
    clear q
    go_wp2_with fail
    refine (C3.out _ (RT.out.below B2.out)).mono ?_
    rintro e w3 ⟨v3, rfl, o3, q⟩
    have B3 := hide (B2.out.trans (q.mono B2.out.size))
    have R3 := hide (OwnT.rd o3 OS.out)
    clear q o3
    go_wp2_with fail
    refine (C4.out _ _ R3.out).mono ?_
    rintro e w4 ⟨rfl, q⟩
    have B4 := hide (B3.out.trans (q.mono B3.out.size))
    clear q
    go_wp2_with fail
    rw [EX2.out]
    refine (C5.out _).mono ?_
    rintro e w5 ⟨rfl, q⟩
    have B5 := hide (B4.out.trans (q.mono B4.out.size))
    clear q
    go_wp2
    go_ret2
    exact ⟨rfl, B5.out⟩

set_option maxRecDepth 100000 in
set_option maxHeartbeats 800000 in
theorem l8Text_calls (v : Value) (l : List Nat) (w : World) (h : Rd w v (ci l)) (hl : ∀ b ∈ l, b < 256) (hn : l.length ≤ 4096) :
    Calls Tryd.prog 43 #[v] w fun e w' => e = .returned (.string (ofN l)) ∧ Below w.heap.size w w' := by
  obtain ⟨a, cap, hv, m1, m2, m3⟩ := h
  rw [Gf.ci_length] at hv m3
  subst hv
  have M3 := hide m3
  have HL := hide hl
  clear m1 m2 m3 hl
  go_enter Tryd.func43, Tryd.ntmps43
  go_wp2
  go_loopw [3, 5, 8] (fun vs _ vi wr => ∃ k : Nat, k ≤ l.length ∧ vi = .int .i64 k ∧ vs = .string (ofN (l.take k)) ∧ Below w.heap.size w wr) (fun _ _ vi _ => l.length - (intOf vi).toNat)
  case atStart => exact ⟨0, Nat.zero_le _, rfl, rfl, Below.refl _ _⟩
  case round =>
    obtain ⟨k, hk, rfl, rfl, hb⟩ := hrel
    have HB := hide hb
    by_cases hlt : k < l.length
    · have hlt' : (k : Int) < (l.length : Int) := by omega
      rcases M3.out with h3 | ⟨b, off, rfl, hbs, hc⟩
      · have : l = [] := by simpa [ci] using h3
        rw [this] at hlt
        simp at hlt
      have hck : wr.cell? ⟨b, off + k, none⟩ = some (.int .i64 ((l.getD k 0 : Nat) : Int)) := by
        rw [← Gf.ci_getD]
        exact (hb.cell (p := ⟨b, off + k, none⟩) hbs).trans (hc k hlt)
      have hx256 : l.getD k 0 < 256 := by
        rw [List.getD_eq_getElem?_getD, List.getElem?_eq_getElem hlt]
        exact HL.out _ (List.getElem_mem hlt)
      have NX : Hid (ofN (l.take (k + 1)) = ofN (l.take k) ++ ofN [l.getD k 0]) := by
        show _ = _
        rw [ofN_append, take_snoc l k hlt]
      have tsz : (ofN (l.take k)).size ≤ 4096 := by rw [ofN_size, List.length_take]; omega
      generalize l.getD k 0 = x at hck hx256 NX
      generalize ofN (l.take k) = tt at NX tsz ⊢
      have hbt := byte_text x hx256 wr
      have hadd := run_string_add_sum (P := Tryd.prog) (w := wr.alloc (.cells #[.int .u8 (x : Int)] 5)) tt (ofN [x]) (by rw [ofN_size]; simp; omega)
      have HB2 := hide (HB.out.alloc HB.out.size (.cells #[.int .u8 (x : Int)] 5))
      clear hc hb
      go_wp2
      go_roundw
      case rel => exact ⟨k + 1, by omega, by go_num, by rw [NX.out], HB2.out⟩
      case measure => simp [intOf]; omega
    · obtain rfl : k = l.length := by omega
      rw [List.take_of_length_le (Nat.le_refl _)]
      clear hb
      go_wp2
      go_ret
      exact ⟨rfl, HB.out⟩
theorem toList_eq {s t : ByteArray} (h : s = t) : s.toList = t.toList := by rw [h]

set_option linter.unusedSimpArgs false in
set_option maxRecDepth 100000 in
set_option maxHeartbeats 3200000 in
theorem l8From_calls (v : Value) (m : List (List Int)) (y : Bool) (w : World) (hy : y = true ↔ tfP m) (h : RdM w v m) (r16 : R16 m) :
    Calls Tryd.prog 26 #[v] w fun e w' => e = .returned (.tuple #[.string (if y = true then tfT m else ⟨#[]⟩), .bool y]) ∧ Below w.heap.size w w' := by
  have R := hide h
  have HY := hide hy
  obtain ⟨a, cap, rfl, m1, ⟨m2, m2'⟩, m3⟩ := h
  have c5 : (3 : Int) ≤ (cap : Int) := by have := r16.len; omega
  have RT := hide (rdM_take R.out 3 (by rw [r16.len]; omega))
  have R16h := hide r16
  obtain ⟨f, hf⟩ : ∃ f : Nat → List Nat, f = fun k => (m.take k).flatMap nat := ⟨_, rfl⟩
  have F0 : Hid (f 0 = []) := by show _ = _; rw [hf]; rfl
  have FS : Hid (∀ k, k < 3 → f (k + 1) = f k ++ nat (m.getD k [])) := by
    show ∀ k, _
    intro k hk
    rw [hf]
    show (m.take (k + 1)).flatMap nat = (m.take k).flatMap nat ++ _
    rw [List.take_succ_eq_append_getElem (by rw [r16.len]; omega), List.flatMap_append, List.getD_eq_getElem?_getD, List.getElem?_eq_getElem (by rw [r16.len]; omega)]
    simp
  have F3 : Hid (f 3 = tfL m) := by show _ = _; rw [hf]; rfl
  have FL : Hid (∀ k, k ≤ 3 → (f k).length ≤ 48) := by
    show ∀ k, _
    intro k hk
    have hm := r16.len48
    rw [← F3.out] at hm
    have : k = 0 ∨ k = 1 ∨ k = 2 ∨ k = 3 := by omega
    have e1 := FS.out 0 (by omega)
    have e2 := FS.out 1 (by omega)
    have e3 := FS.out 2 (by omega)
    rw [e3, e2, e1] at hm
    simp only [List.length_append] at hm
    rcases this with rfl | rfl | rfl | rfl
    · rw [F0.out]; simp
    · rw [e1, List.length_append]; omega
    · rw [e2, e1, List.length_append, List.length_append]; omega
    · rw [e3, e2, e1, List.length_append, List.length_append, List.length_append]; omega
  clear hf hy m1 m2 m2' m3
  have EXT := hide (ext_mid (tfL m) 1 (1 + tfN m))
  have e2 : 1 + tfN m - 1 = tfN m := by omega
  rw [e2] at EXT
  have BSB := hide (bs_ofN r16.small)
  have TZ : Hid ((ofN (tfL m)).size = 48) := by show _ = _; rw [ofN_size, r16.len48]
  have EXD : Hid (∀ n, n ≤ 48 → (ofN (tfL m)).extract n (ofN (tfL m)).size = ofN ((tfL m).drop n)) := by
    show ∀ n, _
    intro n hn
    rw [TZ.out]
    exact ext_drop _ n 48 r16.len48.symm
  obtain ⟨RR, hRR⟩ : ∃ RR, RR = (if y = true then tfT m else ⟨#[]⟩) := ⟨_, rfl⟩
  rw [← hRR]
  have HRR := hide hRR
  clear e2 hRR
  go_enter Tryd.func26, Tryd.ntmps26
  go_wp2
  go_loopw [4, 6, 11] (fun vs _ vi wr => ∃ k : Nat, k ≤ 3 ∧ vi = .int .i64 k ∧ vs = .string (ofN (f k)) ∧ Below w.heap.size w wr) (fun _ _ vi _ => 3 - (intOf vi).toNat)
  case atStart => exact ⟨0, Nat.zero_le _, rfl, by rw [F0.out]; rfl, Below.refl _ _⟩
  case round =>
    obtain ⟨k, hk, rfl, rfl, hb⟩ := hrel
    have B0 := hide hb
    by_cases hlt : k < 3
    · have hlt' : (k : Int) < 3 := by omega
      obtain ⟨gb, off, u, hua, _, hc, hu⟩ := (R.out.below hb).rowAt k (by rw [r16.len]; omega)
      subst hua
      obtain ⟨q1, q2, q3⟩ := r16.nats k (by omega)
      rw [← q3] at hu
      have U := hide hu
      have NX : Hid (ofN (f (k + 1)) = ofN (f k) ++ ofN (nat (m.getD k []))) := by show _ = _; rw [ofN_append, FS.out k hlt]
      have C := hide (fun W v hv => l8Text_calls v (nat (m.getD k [])) W hv q2 (by rw [q1]; omega))
      have fsz : (ofN (f k)).size ≤ 48 := by rw [ofN_size]; exact FL.out k hk
      have xsz : (ofN (nat (m.getD k []))).size = 16 := by rw [ofN_size, q1]
      obtain ⟨ua, uc, hu2, _⟩ := hu
      rw [q3, (r16.row k (by omega)).1] at hu2
      subst hu2
      generalize nat (m.getD k []) = z at U NX C xsz
      generalize ofN (f k) = tt at NX fsz ⊢
      clear hb q1 q2 q3
      go_wp2_with fail
      refine (C.out _ _ U.out).mono ?_
      rintro e w1 ⟨rfl, q⟩
      have B1 := hide (B0.out.trans (q.mono B0.out.size))
      clear q hc
      have XS := hide xsz
      have hadd := run_string_add_sum (P := Tryd.prog) (w := w1) tt (ofN z) (by rw [XS.out]; omega)
      generalize ofN z = zz at hadd NX ⊢
      clear xsz XS
      go_wp2
      go_roundw
      case rel => exact ⟨k + 1, by omega, by go_num, by rw [NX.out], B1.out⟩
      case measure => simp [intOf]; omega
    · obtain rfl : k = 3 := by omega
      rw [F3.out]
      obtain ⟨BK, hBK⟩ : ∃ P : Prop, P = ((tfL m).drop (1 + tfN m) = List.replicate (47 - tfN m) 0) := ⟨_, rfl⟩
      have HP : Hid (y = true ↔ (tfN m ≤ 47 ∧ BK)) := by show _ ↔ _; rw [hBK]; exact HY.out
      have EQ : Hid (tfN m ≤ 47 → ((ofN (tfL m)).extract (1 + tfN m) (ofN (tfL m)).size = zst (47 - tfN m) ↔ BK)) := by
        intro hn
        rw [EXD.out _ (by omega), hBK]
        constructor
        · intro e
          have := congrArg bs e
          rw [bs_zst, bs_ofN (fun b hb => r16.small b (List.mem_of_mem_drop hb))] at this
          exact this
        · intro e
          apply bs_inj
          rw [bs_zst, bs_ofN (fun b hb => r16.small b (List.mem_of_mem_drop hb))]
          exact e
      have EX2 : Hid ((ofN (tfL m)).extract 1 (1 + tfN m) = tfT m) := EXT.out
      clear hb EXT EXD HY hBK
      generalize ofN (tfL m) = BB at *
      have z0 : 0 < BB.size := by rw [TZ.out]; omega
      have z1 : (0 : Int) < (BB.size : Int) := by omega
      have hb0 : BB[0].toNat = tfN m := by
        have := bs_getD BB 0 z0
        rw [BSB.out] at this
        exact this.symm
      have hn256 : tfN m < 256 := by rw [← hb0]; exact BB[0].toNat_lt
      generalize tfN m = n at *
      clear BSB
      by_cases hn : n ≤ 47
      · have hn' : ¬ (47 : Int) < (n : Int) := by omega
        have hnd : decide ((47 : Int) < (n : Int)) = false := decide_eq_false hn'
        have i1 : (1 : Int) ≤ 1 + (n : Int) := by omega
        have i2 : 1 + (n : Int) ≤ (BB.size : Int) := by rw [TZ.out]; omega
        have i0 : (0 : Int) ≤ 1 + (n : Int) := by omega
        have t0 : (1 + (n : Int)).toNat = 1 + n := by omega
        have hmk : ∀ W : World, (Instr.makeSlice 51 (.int .i64 (47 - (n : Int))) (.int .i64 (47 - (n : Int)))).run Tryd.prog W = .ok (.slice (some ⟨W.heap.size, 0, none⟩) (47 - n) (47 - n)) (W.alloc (.cells (madeCells #[.int .u8 0] (47 - n)) 5)) := by
          intro W
          have e1 : (47 - (n : Int)) = ((47 - n : Nat) : Int) := by omega
          rw [e1]
          exact run_make_row' (P := Tryd.prog) 51 5 (.int .u8 0) 1 Tryd.underlying51 infoByte rfl .i64 .i64 (47 - n) (by omega) (by omega) W
        have hw1 : IntKind.i64.wrap (47 - (n : Int)) = 47 - (n : Int) := by rw [IntKind.wrap_i64]; omega
        have hw2 : IntKind.i64.wrap (1 + (n : Int)) = 1 + (n : Int) := by rw [IntKind.wrap_i64]; omega
        obtain ⟨XX, hXX⟩ : ∃ XX, XX = BB.extract (1 + n) BB.size := ⟨_, rfl⟩
        have EQ2 : Hid (XX = zst (47 - n) ↔ BK) := by show _ ↔ _; rw [hXX]; exact EQ.out hn
        have hXX' := hXX.symm
        clear hXX EQ
        cases y with
        | true =>
          have eq1 := EQ2.out.2 (HP.out.1 rfl).2
          have er : RR = tfT m := by rw [HRR.out, if_pos rfl]
          subst er
          have eq2 := toList_eq eq1
          clear EQ2 HP HRR eq1
          go_wp2
          refine wp_region_noPanic ?_
          refine wp_region_held_drew (S := fun _ => True) (by kernel_rfl) (trivial) (fun hHeld => ?_)
          have S0 := hide (B0.out.drew)
          generalize wr.drew = W0 at S0 hHeld ⊢
          refine wpAnyH_take (i := 0) (v := ?v1) rfl (by kernel_rfl) (by kernel_rfl) (by kernel_rfl) (fun _ _ _ h => h) (Or.inl ⟨by rfl, ?hy1⟩) (by assumption) ?rest1
          case hy1 => (intro w' hSw; dsimp only [List.getElem_toArray, List.getElem_cons_zero, List.getElem_cons_succ] at hSw ⊢; go_simp; try (with_reducible rfl))
          try simp only [Act.put, List.getElem_toArray, List.getElem_cons_zero, List.getElem_cons_succ, List.setIfInBounds_toArray, List.set_cons_zero, List.set_cons_succ]
          refine wpAnyH_take (i := 1) (v := ?v2) rfl (by kernel_rfl) (by kernel_rfl) (by kernel_rfl) (fun _ _ _ h => h) (Or.inl ⟨by rfl, ?hy2⟩) (by assumption) ?rest2
          case hy2 => (intro w' hSw; dsimp only [List.getElem_toArray, List.getElem_cons_zero, List.getElem_cons_succ] at hSw ⊢; go_simp; try (with_reducible rfl))
          try simp only [Act.put, List.getElem_toArray, List.getElem_cons_zero, List.getElem_cons_succ, List.setIfInBounds_toArray, List.set_cons_zero, List.set_cons_succ]
          refine wpAnyH_take (i := 2) (v := ?v3) rfl (by kernel_rfl) (by kernel_rfl) (by kernel_rfl) (fun _ _ _ h => h) (Or.inl ⟨by rfl, ?hy3⟩) (by assumption) ?rest3
          case hy3 => (intro w' hSw; dsimp only [List.getElem_toArray, List.getElem_cons_zero, List.getElem_cons_succ] at hSw ⊢; go_simp; try (with_reducible rfl))
          try simp only [Act.put, List.getElem_toArray, List.getElem_cons_zero, List.getElem_cons_succ, List.setIfInBounds_toArray, List.set_cons_zero, List.set_cons_succ]
          refine wpAnyH_take (i := 3) (v := ?v4) rfl (by kernel_rfl) (by kernel_rfl) (by kernel_rfl) (fun _ _ _ h => h) (Or.inl ⟨by rfl, ?hy4⟩) (by assumption) ?rest4
          case hy4 => (intro w' hSw; dsimp only [List.getElem_toArray, List.getElem_cons_zero, List.getElem_cons_succ] at hSw ⊢; go_simp; try (with_reducible rfl))
          try simp only [Act.put, List.getElem_toArray, List.getElem_cons_zero, List.getElem_cons_succ, List.setIfInBounds_toArray, List.set_cons_zero, List.set_cons_succ]
          refine wpAnyH_take (i := 4) (v := ?v5) rfl (by kernel_rfl) (by kernel_rfl) (by kernel_rfl) (fun _ _ _ h => h) (Or.inl ⟨by rfl, ?hy5⟩) (by assumption) ?rest5
          case hy5 => (intro w' hSw; dsimp only [List.getElem_toArray, List.getElem_cons_zero, List.getElem_cons_succ] at hSw ⊢; go_simp; try (with_reducible rfl))
          try simp only [Act.put, List.getElem_toArray, List.getElem_cons_zero, List.getElem_cons_succ, List.setIfInBounds_toArray, List.set_cons_zero, List.set_cons_succ]
          refine wpAnyH_take (i := 5) (v := ?v6) rfl (by kernel_rfl) (by kernel_rfl) (by kernel_rfl) (fun _ _ _ h => h) (Or.inl ⟨by rfl, ?hy6⟩) (by assumption) ?rest6
          case hy6 => (intro w' hSw; dsimp only [List.getElem_toArray, List.getElem_cons_zero, List.getElem_cons_succ] at hSw ⊢; go_simp; try (with_reducible rfl))
          try simp only [Act.put, List.getElem_toArray, List.getElem_cons_zero, List.getElem_cons_succ, List.setIfInBounds_toArray, List.set_cons_zero, List.set_cons_succ]
          refine wpAnyH_take (i := 6) (v := ?v7) rfl (by kernel_rfl) (by kernel_rfl) (by kernel_rfl) (fun _ _ _ h => h) (Or.inl ⟨by rfl, ?hy7⟩) (by assumption) ?rest7
          case hy7 => (intro w' hSw; dsimp only [List.getElem_toArray, List.getElem_cons_zero, List.getElem_cons_succ] at hSw ⊢; go_simp; try (with_reducible rfl))
          try simp only [Act.put, List.getElem_toArray, List.getElem_cons_zero, List.getElem_cons_succ, List.setIfInBounds_toArray, List.set_cons_zero, List.set_cons_succ]
          refine wpAnyH_take (i := 7) (v := ?v8) rfl (by kernel_rfl) (by kernel_rfl) (by kernel_rfl) (fun _ _ _ h => h) (Or.inl ⟨by rfl, ?hy8⟩) (by assumption) ?rest8
          case hy8 => (intro w' hSw; dsimp only [List.getElem_toArray, List.getElem_cons_zero, List.getElem_cons_succ] at hSw ⊢; go_simp; try (with_reducible rfl))
          try simp only [Act.put, List.getElem_toArray, List.getElem_cons_zero, List.getElem_cons_succ, List.setIfInBounds_toArray, List.set_cons_zero, List.set_cons_succ]
          refine wpAnyH_take (i := 8) (v := ?v9) rfl (by kernel_rfl) (by kernel_rfl) (by kernel_rfl) (fun _ _ _ h => h) (Or.inl ⟨by rfl, ?hy9⟩) (by assumption) ?rest9
          case hy9 => (intro w' hSw; dsimp only [List.getElem_toArray, List.getElem_cons_zero, List.getElem_cons_succ] at hSw ⊢; go_simp; try (with_reducible rfl))
          try simp only [Act.put, List.getElem_toArray, List.getElem_cons_zero, List.getElem_cons_succ, List.setIfInBounds_toArray, List.set_cons_zero, List.set_cons_succ]
          refine wpAnyH_ready (rs := [9]) (by kernel_rfl) (by simp) ?_
          refine AllReadyH.cons rfl (fun K hK => ?_) AllReadyH.nil
          dsimp only [List.getElem_toArray, List.getElem_cons_zero, List.getElem_cons_succ]
          go_simp
          refine hK.out _ _ trivial (fun hHeld => ?_)
          clear hK K hHeld
          refine wpAnyH_imp (S' := fun w' => True ∧ (convert 51 9 (.slice (some ⟨W0.heap.size, 0, none⟩) (47 - n) (47 - n))).run Tryd.prog w' = .ok (.string (zst (47 - n))) w') (fun _ h => h.1) _ _ _ _ ?_
          have MM := hide (Below.refl (W0.alloc (.cells (madeCells #[.int .u8 0] (47 - n)) 5)).heap.size (W0.alloc (.cells (madeCells #[.int .u8 0] (47 - n)) 5)))
          have SM := hide (S0.out.alloc S0.out.size (.cells (madeCells #[.int .u8 0] (47 - n)) 5))
          have hHeld : (fun w' : World => True ∧ (convert 51 9 (.slice (some ⟨W0.heap.size, 0, none⟩) (47 - n) (47 - n))).run Tryd.prog w' = .ok (.string (zst (47 - n))) w') (W0.alloc (.cells (madeCells #[.int .u8 0] (47 - n)) 5)) := ⟨trivial, conv_zst (47 - n) _ _ MM.out⟩
          try simp only [Act.put, List.getElem_toArray, List.getElem_cons_zero, List.getElem_cons_succ, List.setIfInBounds_toArray, List.set_cons_zero, List.set_cons_succ]
          refine wpAnyH_take (i := 10) (v := ?v10) rfl (by kernel_rfl) (by kernel_rfl) (by kernel_rfl) (fun _ _ _ h => h) (Or.inl ⟨by rfl, ?hy10⟩) (by assumption) ?rest10
          case hy10 => (intro w' hSw; dsimp only [List.getElem_toArray, List.getElem_cons_zero, List.getElem_cons_succ] at hSw ⊢; go_simp; try (with_reducible rfl))
          try simp only [Act.put, List.getElem_toArray, List.getElem_cons_zero, List.getElem_cons_succ, List.setIfInBounds_toArray, List.set_cons_zero, List.set_cons_succ]
          refine wpAnyH_take (i := 11) (v := ?v11) rfl (by kernel_rfl) (by kernel_rfl) (by kernel_rfl) (fun _ _ _ h => h) (Or.inl ⟨by rfl, ?hy11⟩) (by assumption) ?rest11
          case hy11 => (intro w' hSw; dsimp only [List.getElem_toArray, List.getElem_cons_zero, List.getElem_cons_succ] at hSw ⊢; go_simp; try (with_reducible rfl))
          try simp only [Act.put, List.getElem_toArray, List.getElem_cons_zero, List.getElem_cons_succ, List.setIfInBounds_toArray, List.set_cons_zero, List.set_cons_succ]
          refine wpAnyH_take (i := 12) (v := ?v12) rfl (by kernel_rfl) (by kernel_rfl) (by kernel_rfl) (fun _ _ _ h => h) (Or.inl ⟨by rfl, ?hy12⟩) (by assumption) ?rest12
          case hy12 => (intro w' hSw; dsimp only [List.getElem_toArray, List.getElem_cons_zero, List.getElem_cons_succ] at hSw ⊢; go_simp; try (with_reducible rfl))
          try simp only [Act.put, List.getElem_toArray, List.getElem_cons_zero, List.getElem_cons_succ, List.setIfInBounds_toArray, List.set_cons_zero, List.set_cons_succ]
          refine wpAnyH_done (by kernel_rfl) ?_ _
          refine NoPanic.normal ?_
          clear hHeld
          go_wp2
          go_ret2
          exact ⟨by first | rfl | (rw [EX2.out]; rfl), SM.out⟩
        | false =>
          have nb : ¬ XX = zst (47 - n) := fun h => by have := HP.out.2 ⟨hn, EQ2.out.1 h⟩; simp at this
          have nb1 : ¬ XX.toList = (zst (47 - n)).toList := fun h => nb (toList_inj h)
          have nb2 : (XX.toList == (zst (47 - n)).toList) = false := by simpa using nb1
          have er : RR = ⟨#[]⟩ := by rw [HRR.out, if_neg (by simp)]
          subst er
          clear EQ2 HP HRR nb
          go_wp2
          refine wp_region_noPanic ?_
          refine wp_region_held_drew (S := fun _ => True) (by kernel_rfl) (trivial) (fun hHeld => ?_)
          have S0 := hide (B0.out.drew)
          generalize wr.drew = W0 at S0 hHeld ⊢
          refine wpAnyH_take (i := 0) (v := ?v13) rfl (by kernel_rfl) (by kernel_rfl) (by kernel_rfl) (fun _ _ _ h => h) (Or.inl ⟨by rfl, ?hy13⟩) (by assumption) ?rest13
          case hy13 => (intro w' hSw; dsimp only [List.getElem_toArray, List.getElem_cons_zero, List.getElem_cons_succ] at hSw ⊢; go_simp; try (with_reducible rfl))
          try simp only [Act.put, List.getElem_toArray, List.getElem_cons_zero, List.getElem_cons_succ, List.setIfInBounds_toArray, List.set_cons_zero, List.set_cons_succ]
          refine wpAnyH_take (i := 1) (v := ?v14) rfl (by kernel_rfl) (by kernel_rfl) (by kernel_rfl) (fun _ _ _ h => h) (Or.inl ⟨by rfl, ?hy14⟩) (by assumption) ?rest14
          case hy14 => (intro w' hSw; dsimp only [List.getElem_toArray, List.getElem_cons_zero, List.getElem_cons_succ] at hSw ⊢; go_simp; try (with_reducible rfl))
          try simp only [Act.put, List.getElem_toArray, List.getElem_cons_zero, List.getElem_cons_succ, List.setIfInBounds_toArray, List.set_cons_zero, List.set_cons_succ]
          refine wpAnyH_take (i := 2) (v := ?v15) rfl (by kernel_rfl) (by kernel_rfl) (by kernel_rfl) (fun _ _ _ h => h) (Or.inl ⟨by rfl, ?hy15⟩) (by assumption) ?rest15
          case hy15 => (intro w' hSw; dsimp only [List.getElem_toArray, List.getElem_cons_zero, List.getElem_cons_succ] at hSw ⊢; go_simp; try (with_reducible rfl))
          try simp only [Act.put, List.getElem_toArray, List.getElem_cons_zero, List.getElem_cons_succ, List.setIfInBounds_toArray, List.set_cons_zero, List.set_cons_succ]
          refine wpAnyH_take (i := 3) (v := ?v16) rfl (by kernel_rfl) (by kernel_rfl) (by kernel_rfl) (fun _ _ _ h => h) (Or.inl ⟨by rfl, ?hy16⟩) (by assumption) ?rest16
          case hy16 => (intro w' hSw; dsimp only [List.getElem_toArray, List.getElem_cons_zero, List.getElem_cons_succ] at hSw ⊢; go_simp; try (with_reducible rfl))
          try simp only [Act.put, List.getElem_toArray, List.getElem_cons_zero, List.getElem_cons_succ, List.setIfInBounds_toArray, List.set_cons_zero, List.set_cons_succ]
          refine wpAnyH_take (i := 4) (v := ?v17) rfl (by kernel_rfl) (by kernel_rfl) (by kernel_rfl) (fun _ _ _ h => h) (Or.inl ⟨by rfl, ?hy17⟩) (by assumption) ?rest17
          case hy17 => (intro w' hSw; dsimp only [List.getElem_toArray, List.getElem_cons_zero, List.getElem_cons_succ] at hSw ⊢; go_simp; try (with_reducible rfl))
          try simp only [Act.put, List.getElem_toArray, List.getElem_cons_zero, List.getElem_cons_succ, List.setIfInBounds_toArray, List.set_cons_zero, List.set_cons_succ]
          refine wpAnyH_take (i := 5) (v := ?v18) rfl (by kernel_rfl) (by kernel_rfl) (by kernel_rfl) (fun _ _ _ h => h) (Or.inl ⟨by rfl, ?hy18⟩) (by assumption) ?rest18
          case hy18 => (intro w' hSw; dsimp only [List.getElem_toArray, List.getElem_cons_zero, List.getElem_cons_succ] at hSw ⊢; go_simp; try (with_reducible rfl))
          try simp only [Act.put, List.getElem_toArray, List.getElem_cons_zero, List.getElem_cons_succ, List.setIfInBounds_toArray, List.set_cons_zero, List.set_cons_succ]
          refine wpAnyH_take (i := 6) (v := ?v19) rfl (by kernel_rfl) (by kernel_rfl) (by kernel_rfl) (fun _ _ _ h => h) (Or.inl ⟨by rfl, ?hy19⟩) (by assumption) ?rest19
          case hy19 => (intro w' hSw; dsimp only [List.getElem_toArray, List.getElem_cons_zero, List.getElem_cons_succ] at hSw ⊢; go_simp; try (with_reducible rfl))
          try simp only [Act.put, List.getElem_toArray, List.getElem_cons_zero, List.getElem_cons_succ, List.setIfInBounds_toArray, List.set_cons_zero, List.set_cons_succ]
          refine wpAnyH_take (i := 7) (v := ?v20) rfl (by kernel_rfl) (by kernel_rfl) (by kernel_rfl) (fun _ _ _ h => h) (Or.inl ⟨by rfl, ?hy20⟩) (by assumption) ?rest20
          case hy20 => (intro w' hSw; dsimp only [List.getElem_toArray, List.getElem_cons_zero, List.getElem_cons_succ] at hSw ⊢; go_simp; try (with_reducible rfl))
          try simp only [Act.put, List.getElem_toArray, List.getElem_cons_zero, List.getElem_cons_succ, List.setIfInBounds_toArray, List.set_cons_zero, List.set_cons_succ]
          refine wpAnyH_take (i := 8) (v := ?v21) rfl (by kernel_rfl) (by kernel_rfl) (by kernel_rfl) (fun _ _ _ h => h) (Or.inl ⟨by rfl, ?hy21⟩) (by assumption) ?rest21
          case hy21 => (intro w' hSw; dsimp only [List.getElem_toArray, List.getElem_cons_zero, List.getElem_cons_succ] at hSw ⊢; go_simp; try (with_reducible rfl))
          try simp only [Act.put, List.getElem_toArray, List.getElem_cons_zero, List.getElem_cons_succ, List.setIfInBounds_toArray, List.set_cons_zero, List.set_cons_succ]
          refine wpAnyH_ready (rs := [9]) (by kernel_rfl) (by simp) ?_
          refine AllReadyH.cons rfl (fun K hK => ?_) AllReadyH.nil
          dsimp only [List.getElem_toArray, List.getElem_cons_zero, List.getElem_cons_succ]
          go_simp
          refine hK.out _ _ trivial (fun hHeld => ?_)
          clear hK K hHeld
          refine wpAnyH_imp (S' := fun w' => True ∧ (convert 51 9 (.slice (some ⟨W0.heap.size, 0, none⟩) (47 - n) (47 - n))).run Tryd.prog w' = .ok (.string (zst (47 - n))) w') (fun _ h => h.1) _ _ _ _ ?_
          have MM := hide (Below.refl (W0.alloc (.cells (madeCells #[.int .u8 0] (47 - n)) 5)).heap.size (W0.alloc (.cells (madeCells #[.int .u8 0] (47 - n)) 5)))
          have SM := hide (S0.out.alloc S0.out.size (.cells (madeCells #[.int .u8 0] (47 - n)) 5))
          have hHeld : (fun w' : World => True ∧ (convert 51 9 (.slice (some ⟨W0.heap.size, 0, none⟩) (47 - n) (47 - n))).run Tryd.prog w' = .ok (.string (zst (47 - n))) w') (W0.alloc (.cells (madeCells #[.int .u8 0] (47 - n)) 5)) := ⟨trivial, conv_zst (47 - n) _ _ MM.out⟩
          try simp only [Act.put, List.getElem_toArray, List.getElem_cons_zero, List.getElem_cons_succ, List.setIfInBounds_toArray, List.set_cons_zero, List.set_cons_succ]
          refine wpAnyH_take (i := 10) (v := ?v22) rfl (by kernel_rfl) (by kernel_rfl) (by kernel_rfl) (fun _ _ _ h => h) (Or.inl ⟨by rfl, ?hy22⟩) (by assumption) ?rest22
          case hy22 => (intro w' hSw; dsimp only [List.getElem_toArray, List.getElem_cons_zero, List.getElem_cons_succ] at hSw ⊢; go_simp; try (with_reducible rfl))
          try simp only [Act.put, List.getElem_toArray, List.getElem_cons_zero, List.getElem_cons_succ, List.setIfInBounds_toArray, List.set_cons_zero, List.set_cons_succ]
          refine wpAnyH_take (i := 11) (v := ?v23) rfl (by kernel_rfl) (by kernel_rfl) (by kernel_rfl) (fun _ _ _ h => h) (Or.inl ⟨by rfl, ?hy23⟩) (by assumption) ?rest23
          case hy23 => (intro w' hSw; dsimp only [List.getElem_toArray, List.getElem_cons_zero, List.getElem_cons_succ] at hSw ⊢; go_simp; try (with_reducible rfl))
          try simp only [Act.put, List.getElem_toArray, List.getElem_cons_zero, List.getElem_cons_succ, List.setIfInBounds_toArray, List.set_cons_zero, List.set_cons_succ]
          refine wpAnyH_take (i := 12) (v := ?v24) rfl (by kernel_rfl) (by kernel_rfl) (by kernel_rfl) (fun _ _ _ h => h) (Or.inl ⟨by rfl, ?hy24⟩) (by assumption) ?rest24
          case hy24 => (intro w' hSw; dsimp only [List.getElem_toArray, List.getElem_cons_zero, List.getElem_cons_succ] at hSw ⊢; go_simp; try (with_reducible rfl))
          try simp only [Act.put, List.getElem_toArray, List.getElem_cons_zero, List.getElem_cons_succ, List.setIfInBounds_toArray, List.set_cons_zero, List.set_cons_succ]
          refine wpAnyH_done (by kernel_rfl) ?_ _
          refine NoPanic.normal ?_
          clear hHeld
          go_wp2
          go_ret2
          exact ⟨rfl, SM.out⟩
      · have hn' : (47 : Int) < (n : Int) := by omega
        have hnd : decide ((47 : Int) < (n : Int)) = true := decide_eq_true hn'
        have yf : y = false := by
          cases y with
          | false => rfl
          | true => exact absurd (HP.out.1 rfl).1 hn
        subst yf
        have er : RR = ⟨#[]⟩ := by rw [HRR.out, if_neg (by simp)]
        subst er
        clear HP HRR EQ
        go_wp2
        go_quiet (fail)
        go_wp2
        go_ret2
        exact ⟨rfl, below_drewN B0.out nq⟩

set_option maxRecDepth 100000 in
set_option maxHeartbeats 1600000 in
theorem sTextFrom_calls (v : Value) (m : List (List Int)) (y : Bool) (w : World) (hy : y = true ↔ tfP m) (h : RdM w v m) :
    Calls Tryd.prog 11 #[v] w fun e w' => e = .returned (.tuple #[.string (tfR m y).1, .bool (tfR m y).2]) ∧ Below w.heap.size w w' := by
  have R := hide h
  obtain ⟨a, cap, rfl, m1, ⟨m2, m2'⟩, m3⟩ := h
  clear m2 m2' m1
  have C1 := hide (fun W v h => l3Pieces_calls v m 5 W h)
  have C2 := hide (fun W v h => sCheckPieces_calls 3 2 v m W h)
  by_cases hp : (piecesOk m && decide ((m.length : Int) = 5)) = true
  case neg =>
    have hp' : (piecesOk m && decide ((m.length : Int) = 5)) = false := by
      cases hh : (piecesOk m && decide ((m.length : Int) = 5)) with
      | false => rfl
      | true => exact absurd hh hp
    have er : tfR m y = (⟨#[]⟩, false) := by
      refine if_neg (fun h' => hp ?_)
      have hr := (tf_r16 h'.1).1
      have hk := chkOk_facts (d := 3) (q := 2) (m := m) (by
        cases hh : chkOk 3 2 m with
        | true => rfl
        | false =>
          have := (tf_r16 h'.1).2
          unfold chkR at this
          rw [if_neg (by rw [hh]; simp)] at this
          simp at this)
      rw [hk.2.2, Bool.true_and, decide_eq_true_eq]
      have := hr.len
      omega
    rw [er]
    rw [hp'] at C1
    clear er hp hp' m3
    go_enter Tryd.func11, Tryd.ntmps11
    go_wp2_with fail
    refine (C1.out _ _ R.out).mono ?_
    rintro e w1 ⟨rfl, rfl⟩
    go_wp2
    go_ret2
    exact ⟨rfl, Below.refl _ _⟩
  simp only [Bool.and_eq_true, decide_eq_true_eq] at hp
  rw [hp.1, decide_eq_true hp.2, Bool.and_self] at C1
  have h5 : m.length = 5 := by omega
  have L5 := hide h5
  obtain ⟨gb, off, u, hua, hlt, hc, hu⟩ := R.out.rowAt 0 (by omega)
  subst hua
  rw [Nat.add_zero] at hc
  have i0 : (0 : Int) < (m.length : Int) := by omega
  obtain ⟨ua, uc, hu2, _⟩ := hu
  subst hu2
  have hl32 := (piecesOk_at hp.1 0 (by omega)).2.1
  by_cases h16 : (m.getD 0 []).length = 16
  case neg =>
    have er : tfR m y = (⟨#[]⟩, false) := if_neg (fun h' => h16 ((tf_r16 h'.1).1.row 0 (by omega)).1)
    rw [er]
    generalize (m.getD 0 []).length = n0 at hc h16 hl32
    have h16' : ¬ (n0 : Int) = 16 := by omega
    have h16b : ((n0 : Int) == 16) = false := by simpa using h16'
    have h16c : ((n0 : Int) != 16) = true := by simpa using h16'
    clear er m3 h5 hp
    go_enter Tryd.func11, Tryd.ntmps11
    go_wp2_with fail
    refine (C1.out _ _ R.out).mono ?_
    rintro e w1 ⟨rfl, rfl⟩
    go_wp2
    go_ret2
    exact ⟨rfl, Below.refl _ _⟩
  rw [h16] at hc
  have hr : tfOk m = (chkR 3 2 m).1 := by unfold tfOk; rw [decide_eq_true h16, Bool.and_true]
  have hk2 : (chkR 3 2 m).1 = true → (chkR 3 2 m).2 = true := fun h => by rw [(tf_r16 (by rw [hr]; exact h)).2]
  by_cases hok : (chkR 3 2 m).1 = true
  · have r16 := (tf_r16 (by rw [hr]; exact hok)).1
    have C3 := hide (fun W v h => l8From_calls v m y W hy h r16)
    have er : tfR m y = (if y = true then tfT m else ⟨#[]⟩, y) := by
      unfold tfR
      rw [hr, hok]
      cases y <;> simp
    rw [er]
    rw [hok, hk2 hok] at C2
    generalize (if y = true then tfT m else ⟨#[]⟩) = RR at C3
    clear er m3 h5 hp hok hk2 hr r16 h16 hl32
    go_enter Tryd.func11, Tryd.ntmps11
    go_wp2_with fail
    refine (C1.out _ _ R.out).mono ?_
    rintro e w1 ⟨rfl, rfl⟩
    go_wp2_with fail
    refine (C2.out _ _ R.out).mono ?_
    rintro e w2 ⟨rfl, q⟩
    have B2 := hide q
    clear q
    go_wp2_with fail
    refine (C3.out _ _ (R.out.below B2.out)).mono ?_
    rintro e w3 ⟨rfl, q⟩
    have B3 := hide (B2.out.trans (q.mono B2.out.size))
    clear q
    go_wp2
    go_ret2
    exact ⟨rfl, B3.out⟩
  · have hok' : (chkR 3 2 m).1 = false := by
      cases hh : (chkR 3 2 m).1 with
      | false => rfl
      | true => exact absurd hh hok
    have er : tfR m y = (⟨#[]⟩, false) := if_neg (fun h' => hok (by rw [← hr]; exact h'.1))
    rw [er]
    rw [hok'] at C2
    generalize (chkR 3 2 m).2 = g3 at C2
    clear er m3 h5 hp hok hk2 hr h16 hl32 hok'
    go_enter Tryd.func11, Tryd.ntmps11
    go_wp2_with fail
    refine (C1.out _ _ R.out).mono ?_
    rintro e w1 ⟨rfl, rfl⟩
    go_wp2_with fail
    refine (C2.out _ _ R.out).mono ?_
    rintro e w2 ⟨rfl, q⟩
    have B2 := hide q
    clear q
    go_wp2
    go_ret2
    exact ⟨rfl, B2.out⟩
end Go.Proofs.YtiojipicincgfaaDoor
end
section
namespace Go.Proofs.YtiojipicincgfaaDoor
open Go.RowKit
set_option linter.unusedVariables false

set_option maxRecDepth 100000 in
set_option maxHeartbeats 1600000 in
theorem fnExactTextFrom_walk (vm : Value) (m : List (List Int)) (w : World) (hT : Gf.Tab w) (hm : RdM w vm m) :
    Calls Tryd.prog 4 #[vm] w fun e w' => e = .returned (.bool true) ∧ Below w.heap.size w w' := by
  have Pm := hide hm
  obtain ⟨am, capm, rfl, _⟩ := hm
  have T := hide hT
  clear hT
  by_cases hnm : (m.length : Int) + tot m ≤ 1048576
  case neg =>
    go_enter Tryd.func4, Tryd.ntmps4
    go_wp2_with fail
    refine (szIntSS_calls _ m _ _ Pm.out (by omega) (by omega)).mono ?_
    rw [if_neg (by omega)]
    rintro e w' ⟨rfl, rfl⟩
    go_wp2
    go_ret
    exact ⟨rfl, Below.refl _ _⟩
  obtain ⟨left0, hleft0⟩ : ∃ left : Int, left = 1048576 - ((m.length : Int) + tot m) := ⟨_, rfl⟩
  have hl0 : 0 ≤ left0 := by omega
  have hm0 : left0 ≤ 1048576 := by omega
  have Hnm : Hid (m.length + tot m ≤ 1048576) := by show m.length + tot m ≤ 1048576; omega
  have HCm := hide hnm
  have HE := hide hleft0
  clear hnm hleft0
  obtain ⟨y, hy⟩ := tf_bool m
  have C1 := hide (fun W v hv => sTextFrom_calls v m y W hy hv)
  have C2 := hide (fun W v h hv => textFrom_calls v m y W hy h hv)
  generalize (tfR m y).1 = tt at C1 C2
  generalize (tfR m y).2 = ok at C1 C2
  clear hy
  have S0 := hide (Hands.start w)
  go_enter Tryd.func4, Tryd.ntmps4
  go_wp2_with fail
  refine (szIntSS_calls _ m _ _ Pm.out (by omega) (by omega)).mono ?_
  rw [if_pos HCm.out, ← HE.out]
  rintro e w0 ⟨rfl, rfl⟩
  go_wp2_with fail
  refine (toIntSS_calls _ m _ (Pm.out.below S0.out.below) Hnm.out).mono ?_
  rintro e w1 ⟨v1, rfl, o, b⟩
  have S1 := hide (S0.out.addM b o)
  clear o b S0
  go_wp2_with fail
  refine (C1.out _ _ (S1.out.rdM 0 rfl)).mono ?_
  rintro e w2 ⟨rfl, b⟩
  have S2 := hide (S1.out.step b)
  clear b S1
  go_wp2_with fail
  refine (toIntSS_calls _ m _ (Pm.out.below S2.out.below) Hnm.out).mono ?_
  rintro e w3 ⟨v2, rfl, o, b⟩
  have S3 := hide (S2.out.addM b o)
  clear o b S2
  go_wp2_with fail
  refine (C2.out _ _ (Gf.Tab.below T.out S3.out.below) (S3.out.rdM 0 rfl)).mono ?_
  rintro e w4 ⟨rfl, b⟩
  have S4 := hide (S3.out.step b)
  clear b S3
  go_wp2_with fail
  refine (toIntSS_calls _ m _ (Pm.out.below S4.out.below) Hnm.out).mono ?_
  rintro e w5 ⟨v3, rfl, o, b⟩
  have S5 := hide (S4.out.addM b o)
  clear o b S4
  go_wp2_with fail
  refine (eqIntSS_same v2 v3 m _ (S5.out.rdM 1 rfl) (S5.out.rdM 0 rfl)).mono ?_
  rintro e w6 ⟨rfl, b⟩
  have S6 := hide (S5.out.step b)
  clear b S5
  go_wp2
  go_ret
  exact ⟨rfl, S6.out.below⟩
end Go.Proofs.YtiojipicincgfaaDoor
end
