/-
  Blocks, elements and bodies: the program's blockOf, elementsOf, bodyOf, and these for each of a list. Each contract says what it asks.
-/
import Derived.Test.YtbgadbokejaomaaGreatDoorRewriteAtB19
import Derived.Test.YtbgadbokejaomaaGreatDoorRewriteAtB20
import Derived.Test.YtbgadbokejaomaaGreatDoorRewriteAtB24
import Derived.Test.YtbgadbokejaomaaGreatDoorRewriteAtB7
namespace Go.Proofs.YtbgadbokejaomaaGreatDoor
open Go.RowKit
open Gf (ci nat)
set_option linter.unusedVariables false

/-- A block: a byte of the text's length, the text, noughts: 48 in all. -/
def blk (S : ByteArray) : List Nat := S.size :: (bs S ++ List.replicate (47 - S.size) 0)
theorem blk_length {S : ByteArray} (h : S.size ≤ 47) : (blk S).length = 48 := by
  unfold blk
  rw [List.length_cons, List.length_append, bs_length, List.length_replicate]
  omega
theorem blk_small {S : ByteArray} (h : S.size ≤ 47) : ∀ b ∈ blk S, b < 256 := by
  intro b hb
  unfold blk at hb
  rcases List.mem_cons.1 hb with hb | hb
  · omega
  · rcases List.mem_append.1 hb with hb | hb
    · exact bs_lt S b hb
    · simp only [List.mem_replicate] at hb
      omega
theorem rep0 (c : Nat) : (⟨(Go.Lib.repeatL (⟨#[0]⟩ : ByteArray).data.toList c).toArray⟩ : ByteArray) = ofN (List.replicate c 0) := by
  have := Go.Lib.repeatL_replicate 0 1 c
  simp only [List.replicate_one, Nat.mul_one] at this
  unfold ofN
  congr 1
  show (Go.Lib.repeatL [0] c).toArray = _
  rw [this, List.map_replicate]
  rfl
theorem RdT.slB {w : World} {v : Value} {xs : List ByteArray} (h : RdT w v xs) : ∃ a cap, v = .slice a xs.length cap ∧ xs.length ≤ cap := by
  obtain ⟨a, cap, rfl, h1, _⟩ := h
  exact ⟨a, cap, rfl, h1⟩
theorem RdT.cellB {w : World} {a : Option Addr} {n cap : Nat} {xs : List ByteArray} (h : RdT w (.slice a n cap) xs) (i : Nat) (hi : i < xs.length) : ∃ b off, a = some ⟨b, off, none⟩ ∧ w.cell? ⟨b, off + i, none⟩ = some (.string (xs.getD i ⟨#[]⟩)) := by
  obtain ⟨a', cap', e, h1, h2, h4, h3⟩ := h
  simp only [Value.slice.injEq] at e
  obtain ⟨rfl, _, rfl⟩ := e
  rcases h3 with h3 | ⟨b, off, rfl, hlt, hc⟩
  · subst h3; simp at hi
  · exact ⟨b, off, rfl, hc i hi⟩
/-- What is laid so far. -/
def padU (us : List Value) (n : Nat) : List Value := us ++ List.replicate (n - us.length) nilRow
theorem padU_length (us : List Value) (n : Nat) (h : us.length ≤ n) : (padU us n).length = n := by simp [padU]; omega
theorem padU_set (us : List Value) (n : Nat) (u : Value) (h : us.length < n) : (padU us n).set us.length u = padU (us ++ [u]) n := by
  unfold padU
  obtain ⟨k, hk⟩ : ∃ k, n - us.length = k + 1 := ⟨n - us.length - 1, by omega⟩
  have hk2 : n - (us ++ [u]).length = k := by simp; omega
  rw [hk, hk2, List.replicate_succ, List.set_append_right _ _ (Nat.le_refl _), Nat.sub_self, List.set_cons_zero, List.append_assoc]
  rfl

set_option maxRecDepth 100000 in
set_option maxHeartbeats 800000 in
theorem blockOf_calls (S : ByteArray) (w : World) (hS : S.size ≤ 47) :
    Calls Tryz.prog 142 #[.string S] w fun e w' => e = .returned (.string (ofN (blk S))) ∧ Below w.heap.size w w' := by
  have B0 := hide (below_box w (.cells #[.int .u8 (S.size : Int)] 5))
  have hbt := byte_text S.size (by omega) w
  have e1 : ofN [S.size] ++ S = ofN (S.size :: bs S) := by
    have := ofN_append [S.size] (bs S)
    rw [ofN_bs] at this
    exact this
  have RP := hide (fun W => Tryz.strings_Repeat ⟨#[0]⟩ (47 - S.size) W (by omega) (by show 1 * _ ≤ _; omega))
  have E5 : Hid ((47 : Int) - (S.size : Int) = ((47 - S.size : Nat) : Int)) := by show _ = _; omega
  have hadd := run_string_add_sum (P := Tryz.prog) (w := w.alloc (.cells #[.int .u8 (S.size : Int)] 5)) (ofN [S.size]) S (by rw [ofN_size]; simp; omega)
  rw [e1] at hadd
  clear e1
  go_enter Tryz.func142, Tryz.ntmps142
  go_wp2_with fail
  rw [E5.out]
  refine (RP.out _).mono ?_
  rintro e w1 ⟨rfl, q⟩
  rw [rep0]
  have B1 := hide (B0.out.trans (q.mono (by simp)))
  clear q hadd hbt
  have hadd2 := run_string_add_sum (P := Tryz.prog) (w := w1) (ofN (S.size :: bs S)) (ofN (List.replicate (47 - S.size) 0)) (by rw [ofN_size, ofN_size, List.length_cons, List.length_replicate, bs_length]; omega)
  rw [ofN_append] at hadd2
  go_wp2
  go_ret
  exact ⟨rfl, B1.out⟩

set_option maxRecDepth 100000 in
set_option maxHeartbeats 800000 in
theorem elementsOf_calls (S : ByteArray) (w : World) (hS : S.size ≤ 4096) :
    Calls Tryz.prog 145 #[.string S] w fun e w' => ∃ v', e = .returned v' ∧ Own w' w.heap.size v' (ci (bs S)) ∧ Below w.heap.size w w' := by
  have hl : (ci (bs S)).length = S.size := by rw [Gf.ci_length, bs_length]
  have HL := hide hl
  clear hl
  go_enter Tryz.func145, Tryz.ntmps145
  go_wp2_with (at_make; refine wpList_make_ints rfl _ _ rfl w.heap.size _ _ S.size rfl rfl (by omega) (by omega) (by omega) (Nat.le_refl _) ?_)
  intro w0 ho0 hg0
  have hb0 : Below w.heap.size w w0 := (Below.refl _ _).grown hg0 (Nat.le_refl _) (fun k h => by cases h)
  have O0 := hide ho0
  have B0 := hide hb0
  clear ho0 hg0 hb0
  go_wp2
  go_loopw [4, 10] (fun _ vi wr => ∃ k : Nat, k ≤ S.size ∧ vi = .int .i64 k ∧ Own wr w.heap.size (.slice (some ⟨w.heap.size, 0, none⟩) S.size S.size) (cpTo (ci (bs S)) k) ∧ Below w.heap.size w wr) (fun _ vi _ => S.size - (intOf vi).toNat)
  case atStart =>
    refine ⟨0, Nat.zero_le _, rfl, ?_, B0.out⟩
    rw [cpTo_zero, HL.out]
    exact O0.out
  case round =>
    obtain ⟨k, hk, rfl, ho, hb⟩ := hrel
    by_cases hlt : k < S.size
    · have hlt' : (k : Int) < (S.size : Int) := by omega
      have hcl : (cpTo (ci (bs S)) k).length = S.size := by rw [cpTo_length _ k (by rw [HL.out]; exact hk), HL.out]
      obtain ⟨hfz, hcell⟩ := ho.at k (by rw [hcl]; exact hlt)
      obtain ⟨old, hold⟩ : ∃ o, o = (cpTo (ci (bs S)) k).getD k 0 := ⟨_, rfl⟩
      rw [← hold] at hcell
      obtain ⟨byt, hbz⟩ : ∃ byt, byt = S[k].toNat := ⟨_, rfl⟩
      have hb256 : byt < 256 := by rw [hbz]; exact (S[k]).toNat_lt
      have hbyt : byt = (bs S).getD k 0 := by rw [hbz]; exact (bs_getD S k hlt).symm
      have hbz' := hbz.symm
      have hst : (cpTo (ci (bs S)) k).set k (byt : Int) = cpTo (ci (bs S)) (k + 1) := by
        have := cpTo_step (ci (bs S)) k (by rw [HL.out]; exact hlt)
        rw [Gf.ci_getD, ← hbyt] at this
        exact this
      have W := hide (ho.put k (byt : Int))
      have ST := hide hst
      have B := hide hb
      clear hold ho hb hst hcl hbyt hbz
      go_wp2
      go_roundw
      case rel =>
        refine ⟨k + 1, by omega, by go_num, ?_, B.out.setCell (Nat.le_refl _) _⟩
        have := W.out.1
        rw [ST.out] at this
        exact this
      case measure => simp [intOf]; omega
    · obtain rfl : k = S.size := by omega
      have h := ho
      have e := cpTo_end (ci (bs S))
      rw [HL.out] at e
      rw [e] at h
      have O := hide h
      have B := hide hb
      clear ho hb h e
      go_wp2
      go_ret
      exact ⟨_, rfl, O.out, B.out⟩

set_option maxRecDepth 100000 in
set_option maxHeartbeats 800000 in
theorem bodyOf_calls (v : Value) (l : List Nat) (w : World) (h : Rd w v (ci l)) (hl : ∀ b ∈ l, b < 256) (hn : l.length ≤ 4096) :
    Calls Tryz.prog 147 #[v] w fun e w' => e = .returned (.string (ofN l)) ∧ Below w.heap.size w w' := by
  obtain ⟨a, cap, hv, m1, m2, m3⟩ := h
  rw [Gf.ci_length] at hv m3
  subst hv
  have M3 := hide m3
  have HL := hide hl
  clear m1 m2 m3 hl
  go_enter Tryz.func147, Tryz.ntmps147
  go_wp2_with (at_make; refine wpList_make_bytes rfl _ _ rfl w.heap.size _ _ l.length rfl rfl (by omega) (by omega) (by omega) (Nat.le_refl _) ?_)
  intro w2 hown hgrow
  have Z2 := hide (zrow_made hown)
  have B2 := hide (grown_none hgrow)
  clear hown hgrow
  go_wp2
  go_loopw [4, 5, 11] (fun _ _ vi wr => ∃ k : Nat, k ≤ l.length ∧ vi = .int .i64 k ∧ ZRow wr w.heap.size (l.take k ++ List.replicate (l.length - k) 0) ∧ Below w.heap.size w wr) (fun _ _ vi _ => l.length - (intOf vi).toNat)
  case atStart => exact ⟨0, Nat.zero_le _, rfl, by simpa using Z2.out, B2.out⟩
  case round =>
    obtain ⟨k, hk, rfl, hz, hb⟩ := hrel
    have HB := hide hb
    have HZ := hide hz
    by_cases hlt : k < l.length
    · have hlt' : (k : Int) < (l.length : Int) := by omega
      rcases M3.out with h3 | ⟨b, off, rfl, hbs, hc⟩
      · have : l = [] := by simpa [ci] using h3
        rw [this] at hlt
        simp at hlt
      have hck : wr.cell? ⟨b, off + k, none⟩ = some (.int .i64 ((l.getD k 0 : Nat) : Int)) := by
        rw [← Gf.ci_getD]
        exact (hb.cell (p := ⟨b, off + k, none⟩) hbs).trans (hc k hlt)
      have hx256 : l.getD k 0 < 256 := by
        rw [List.getD_eq_getElem?_getD, List.getElem?_eq_getElem hlt]
        exact HL.out _ (List.getElem_mem hlt)
      have hst : (l.take k ++ List.replicate (l.length - k) 0).set k (l.getD k 0) = l.take (k + 1) ++ List.replicate (l.length - (k + 1)) 0 := by
        obtain ⟨n, hn'⟩ : ∃ n, l.length - k = n + 1 := ⟨l.length - k - 1, by omega⟩
        have hn2 : l.length - (k + 1) = n := by omega
        rw [hn', hn2, List.replicate_succ, List.set_append_right _ _ (by simp; omega), List.take_succ_eq_append_getElem hlt, List.append_assoc]
        have e2 : k - (l.take k).length = 0 := by simp; omega
        rw [e2, List.set_cons_zero, List.getD_eq_getElem?_getD, List.getElem?_eq_getElem hlt]
        rfl
      have c0 := hz.cell k (by simp; omega)
      have f0 := hz.frozen k
      have ST := hide hst
      generalize l.getD k 0 = x at hck hx256 ST
      have SZ := hide (HZ.out.set k x)
      generalize (l.take k ++ List.replicate (l.length - k) 0).getD k 0 = old at c0
      clear hc hz hb hst HZ
      go_wp2
      go_roundw
      case rel =>
        refine ⟨k + 1, by omega, by go_num, ?_, HB.out.setCell (Nat.le_refl _) _⟩
        have := SZ.out
        rw [ST.out] at this
        exact this
      case measure => simp [intOf]; omega
    · obtain rfl : k = l.length := by omega
      have hz2 : ZRow wr w.heap.size l := by simpa using hz
      have hcv := hz2.conv (n := l.length) (cap := l.length) HL.out (Nat.le_refl _)
      rw [List.take_of_length_le (Nat.le_refl _)] at hcv
      clear hz hz2 hb HZ
      go_wp2
      go_ret
      exact ⟨rfl, HB.out⟩

set_option maxRecDepth 100000 in
set_option maxHeartbeats 1600000 in
theorem eachElems_calls (v : Value) (xs : List ByteArray) (w : World) (h : RdT w v xs) (hz : ∀ i, i < xs.length → (xs.getD i ⟨#[]⟩).size ≤ 4096) (hn : xs.length ≤ 4096) :
    Calls Tryz.prog 144 #[v, .func (.func 145) #[] #[]] w fun e w' => ∃ v', e = .returned v' ∧ RdM w' v' (xs.map (fun s : ByteArray => ci (bs s))) ∧ Below w.heap.size w w' := by
  have R := hide h
  have SZ := hide hz
  obtain ⟨m, hm⟩ : ∃ m, m = xs.map (fun s : ByteArray => ci (bs s)) := ⟨_, rfl⟩
  have ml : m.length = xs.length := by rw [hm, List.length_map]
  have mg : ∀ k, k < xs.length → m.getD k [] = (fun s : ByteArray => ci (bs s)) (xs.getD k ⟨#[]⟩) := fun k hk => by
    rw [hm]
    simp only [List.getD_eq_getElem?_getD]
    rw [List.getElem?_map, List.getElem?_eq_getElem hk]
    rfl
  rw [← hm]
  have ML := hide ml
  have MG := hide mg
  obtain ⟨a, cap, rfl, m1⟩ := h.slB
  clear h hm ml mg m1
  go_enter Tryz.func144, Tryz.ntmps144
  go_wp2_with (at_make; refine wpList_make_rows rfl _ _ rfl _ _ xs.length rfl rfl (by omega) (by omega) (by omega) ?_)
  intro w0 hm0 hg0
  have M0 := hide hm0.head
  have B0 := hide ((Below.refl w.heap.size w).grown hg0 (Nat.le_refl _) (fun k h => by cases h))
  clear hm0 hg0
  go_wp2
  go_loopw [6, 7, 13] (fun _ _ vi wr => ∃ us : List Value, us.length ≤ xs.length ∧ vi = .int .i64 us.length ∧ wr.ownsRow w.heap.size 27 1 (.slice (some ⟨w.heap.size, 0, none⟩) xs.length xs.length) xs.length (padU us xs.length) ∧ (∀ i, i < us.length → Own wr (w.heap.size + 1) (us.getD i nilRow) (m.getD i [])) ∧ Below w.heap.size w wr) (fun _ _ vi _ => xs.length - (intOf vi).toNat)
  case atStart =>
    refine ⟨[], Nat.zero_le _, rfl, ?_, fun i hi => by simp at hi, B0.out⟩
    have := M0.out
    rw [List.length_replicate] at this
    exact this
  case round =>
    obtain ⟨us, hk, rfl, ho, hus, hb⟩ := hrel
    have O := hide ho
    have US := hide hus
    have B := hide hb
    clear ho hus hb
    by_cases hlt : us.length < xs.length
    · have hlt' : (us.length : Int) < (xs.length : Int) := by omega
      have hd1 : w.heap.size + 1 ≤ wr.heap.size := (World.ownsRow.lt O.out w.heap.size rfl).2
      obtain ⟨gb, off, rfl, hc⟩ := (R.out.below B.out).cellB us.length hlt
      have G := hide (MG.out us.length hlt)
      have hsz := SZ.out us.length hlt
      generalize xs.getD us.length ⟨#[]⟩ = z at hc G hsz
      go_wp2_with fail
      refine (elementsOf_calls z _ hsz).mono ?_
      rintro e w1 ⟨x, rfl, hx, q⟩
      rw [← G.out] at hx
      have X := hide hx
      obtain ⟨xa, xc, rfl⟩ := row_slice hx
      have O1 := hide (ownsRow_below O.out q)
      have B1 := hide (B.out.trans (q.mono B.out.size))
      have US1 : Hid (∀ i, i < us.length → Own w1 (w.heap.size + 1) (us.getD i nilRow) (m.getD i [])) := fun i hi => (US.out i hi).below q
      clear hx q hc
      generalize hxn : (m.getD us.length []).length = xn at *
      have XN := hide hxn
      clear hxn
      have hpl : us.length < (padU us xs.length).length := by rw [padU_length _ _ hk]; exact hlt
      have hc2 : w1.frozen? ⟨w.heap.size, us.length, none⟩ = false := O1.out.frozenAt us.length
      obtain ⟨old, hc3⟩ : ∃ old, w1.cell? ⟨w.heap.size, us.length, none⟩ = some old := by
        rw [O1.out.cellAt us.length (by omega)]
        exact ⟨_, List.getElem?_eq_getElem hpl⟩
      have ST := hide (O1.out.stored us.length (.slice xa xn xc))
      clear O US G
      go_wp2
      go_roundw
      case rel =>
        refine ⟨us ++ [.slice xa xn xc], by simp; omega, by simp, ?_, fun i hi => ?_, B1.out.setCell (Nat.le_refl _) _⟩
        · have := ST.out.1
          rw [padU_set us xs.length _ hlt] at this
          exact this
        · have kept : ∀ (u : Value) (l : List Int), Own w1 (w.heap.size + 1) u l → Own (w1.setCell ⟨w.heap.size, us.length, none⟩ (.slice xa xn xc)) (w.heap.size + 1) u l := fun u l hu => World.ownsRow.kept hu ST.out.2 (by
            cases hb : u.ownBlock with
            | none => exact .inl rfl
            | some z =>
              right
              have := (World.ownsRow.lt hu z hb).1
              intro e
              simp only [Option.some.injEq] at e
              omega)
          by_cases e : i < us.length
          · have : (us ++ [Value.slice xa xn xc]).getD i nilRow = us.getD i nilRow := by simp only [List.getD_eq_getElem?_getD]; rw [List.getElem?_append_left e]
            rw [this]
            exact kept _ _ (US1.out i e)
          · have e2 : i = us.length := by simp at hi; omega
            subst e2
            have : (us ++ [Value.slice xa xn xc]).getD us.length nilRow = .slice xa xn xc := by simp
            rw [this]
            exact kept _ _ (Own.mono X.out hd1)
      case measure => simp [intOf]; omega
    · have e : us.length = xs.length := by omega
      go_wp2
      go_ret
      refine ⟨_, rfl, ?_, B.out⟩
      have ho := O.out
      have ep : padU us xs.length = us := by unfold padU; rw [show xs.length - us.length = 0 by omega, List.replicate_zero, List.append_nil]
      rw [ep] at ho
      have hc : xs.length ≤ maxLen := by unfold maxLen; omega
      have hlt : w.heap.size < wr.heap.size := (World.ownsRow.lt ho w.heap.size rfl).2
      refine ⟨some ⟨w.heap.size, 0, none⟩, xs.length, by rw [ML.out]; rfl, by rw [ML.out]; exact Nat.le_refl _, ⟨hc, fun h => by cases h⟩, .inr ⟨w.heap.size, 0, rfl, hlt, fun i hi => ?_⟩⟩
      rw [ML.out] at hi
      refine ⟨us.getD i nilRow, ?_, (US.out i (by omega)).rd⟩
      rw [Nat.zero_add, World.ownsRow.cellAt ho i (by omega), List.getD_eq_getElem?_getD, List.getElem?_eq_getElem (by omega)]
      rfl

end Go.Proofs.YtbgadbokejaomaaGreatDoor
