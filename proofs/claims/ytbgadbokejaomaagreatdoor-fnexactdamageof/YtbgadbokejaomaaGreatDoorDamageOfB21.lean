/-
  Blocks, elements and bodies: the program's blockOf, elementsOf, bodyOf, and these for each of a list. Each contract says what it asks. PiecesFor: the program's and its model's, at every text. The program's table of rests must hold its seven numbers where the program's own functions are called. Texts put together, and counted: the program's JoinChunks and its model's, call by call. Each says what it asks of the texts' sizes. Pieces put together: the program's JoinBody and its model's, call by call. No condition but a bound on the texts' lengths. A piece as bytes, by the model: l8Text. The contract says what it asks.
-/
import Derived.Test.YtbgadbokejaomaaGreatDoorDamageOfB15
import Derived.Test.YtbgadbokejaomaaGreatDoorDamageOfB16
import Derived.Test.YtbgadbokejaomaaGreatDoorDamageOfB20
import Derived.Test.YtbgadbokejaomaaGreatDoorDamageOfB7
import Derived.Test.YtbgadbokejaomaaGreatDoorDamageOfB14
import Derived.Deep.DeepCutAuto
import Derived.Test.YtbgadbokejaomaaGreatDoorDamageOfB4
import Derived.Lib.AppendStr
namespace Go.Proofs.YtbgadbokejaomaaGreatDoor
open Go.RowKit
open Gf (ci nat)
set_option linter.unusedVariables false

/-- A block: a byte of the text's length, the text, noughts: 48 in all. -/
def blk (S : ByteArray) : List Nat := S.size :: (bs S ++ List.replicate (47 - S.size) 0)
theorem blk_small {S : ByteArray} (h : S.size ≤ 47) : ∀ b ∈ blk S, b < 256 := by
  intro b hb
  unfold blk at hb
  rcases List.mem_cons.1 hb with hb | hb
  · omega
  · rcases List.mem_append.1 hb with hb | hb
    · exact bs_lt S b hb
    · simp only [List.mem_replicate] at hb
      omega
theorem rep0 (c : Nat) : (⟨(Go.Lib.repeatL (⟨#[0]⟩ : ByteArray).data.toList c).toArray⟩ : ByteArray) = ofN (List.replicate c 0) := by
  have := Go.Lib.repeatL_replicate 0 1 c
  simp only [List.replicate_one, Nat.mul_one] at this
  unfold ofN
  congr 1
  show (Go.Lib.repeatL [0] c).toArray = _
  rw [this, List.map_replicate]
  rfl
/-- What is laid so far. -/
def padU (us : List Value) (n : Nat) : List Value := us ++ List.replicate (n - us.length) nilRow
theorem padU_length (us : List Value) (n : Nat) (h : us.length ≤ n) : (padU us n).length = n := by simp [padU]; omega
theorem padU_set (us : List Value) (n : Nat) (u : Value) (h : us.length < n) : (padU us n).set us.length u = padU (us ++ [u]) n := by
  unfold padU
  obtain ⟨k, hk⟩ : ∃ k, n - us.length = k + 1 := ⟨n - us.length - 1, by omega⟩
  have hk2 : n - (us ++ [u]).length = k := by simp; omega
  rw [hk, hk2, List.replicate_succ, List.set_append_right _ _ (Nat.le_refl _), Nat.sub_self, List.set_cons_zero, List.append_assoc]
  rfl

set_option maxRecDepth 100000 in
set_option maxHeartbeats 800000 in
theorem blockOf_calls (S : ByteArray) (w : World) (hS : S.size ≤ 47) :
    Calls Tryz.prog 142 #[.string S] w fun e w' => e = .returned (.string (ofN (blk S))) ∧ Below w.heap.size w w' := by
  have B0 := hide (below_box w (.cells #[.int .u8 (S.size : Int)] 5))
  have hbt := byte_text S.size (by omega) w
  have e1 : ofN [S.size] ++ S = ofN (S.size :: bs S) := by
    have := ofN_append [S.size] (bs S)
    rw [ofN_bs] at this
    exact this
  have RP := hide (fun W => Tryz.strings_Repeat ⟨#[0]⟩ (47 - S.size) W (by omega) (by show 1 * _ ≤ _; omega))
  have E5 : Hid ((47 : Int) - (S.size : Int) = ((47 - S.size : Nat) : Int)) := by show _ = _; omega
  have hadd := run_string_add_sum (P := Tryz.prog) (w := w.alloc (.cells #[.int .u8 (S.size : Int)] 5)) (ofN [S.size]) S (by rw [ofN_size]; simp; omega)
  rw [e1] at hadd
  clear e1
  go_enter Tryz.func142, Tryz.ntmps142
  go_wp2_with fail
  rw [E5.out]
  refine (RP.out _).mono ?_
  rintro e w1 ⟨rfl, q⟩
  rw [rep0]
  have B1 := hide (B0.out.trans (q.mono (by simp)))
  clear q hadd hbt
  have hadd2 := run_string_add_sum (P := Tryz.prog) (w := w1) (ofN (S.size :: bs S)) (ofN (List.replicate (47 - S.size) 0)) (by rw [ofN_size, ofN_size, List.length_cons, List.length_replicate, bs_length]; omega)
  rw [ofN_append] at hadd2
  go_wp2
  go_ret
  exact ⟨rfl, B1.out⟩

set_option maxRecDepth 100000 in
set_option maxHeartbeats 800000 in
theorem elementsOf_calls (S : ByteArray) (w : World) (hS : S.size ≤ 4096) :
    Calls Tryz.prog 145 #[.string S] w fun e w' => ∃ v', e = .returned v' ∧ Own w' w.heap.size v' (ci (bs S)) ∧ Below w.heap.size w w' := by
  have hl : (ci (bs S)).length = S.size := by rw [Gf.ci_length, bs_length]
  have HL := hide hl
  clear hl
  go_enter Tryz.func145, Tryz.ntmps145
  go_wp2_with (at_make; refine wpList_make_ints rfl _ _ rfl w.heap.size _ _ S.size rfl rfl (by omega) (by omega) (by omega) (Nat.le_refl _) ?_)
  intro w0 ho0 hg0
  have hb0 : Below w.heap.size w w0 := (Below.refl _ _).grown hg0 (Nat.le_refl _) (fun k h => by cases h)
  have O0 := hide ho0
  have B0 := hide hb0
  clear ho0 hg0 hb0
  go_wp2
  go_loopw [4, 10] (fun _ vi wr => ∃ k : Nat, k ≤ S.size ∧ vi = .int .i64 k ∧ Own wr w.heap.size (.slice (some ⟨w.heap.size, 0, none⟩) S.size S.size) (cpTo (ci (bs S)) k) ∧ Below w.heap.size w wr) (fun _ vi _ => S.size - (intOf vi).toNat)
  case atStart =>
    refine ⟨0, Nat.zero_le _, rfl, ?_, B0.out⟩
    rw [cpTo_zero, HL.out]
    exact O0.out
  case round =>
    obtain ⟨k, hk, rfl, ho, hb⟩ := hrel
    by_cases hlt : k < S.size
    · have hlt' : (k : Int) < (S.size : Int) := by omega
      have hcl : (cpTo (ci (bs S)) k).length = S.size := by rw [cpTo_length _ k (by rw [HL.out]; exact hk), HL.out]
      obtain ⟨hfz, hcell⟩ := ho.at k (by rw [hcl]; exact hlt)
      obtain ⟨old, hold⟩ : ∃ o, o = (cpTo (ci (bs S)) k).getD k 0 := ⟨_, rfl⟩
      rw [← hold] at hcell
      obtain ⟨byt, hbz⟩ : ∃ byt, byt = S[k].toNat := ⟨_, rfl⟩
      have hb256 : byt < 256 := by rw [hbz]; exact (S[k]).toNat_lt
      have hbyt : byt = (bs S).getD k 0 := by rw [hbz]; exact (bs_getD S k hlt).symm
      have hbz' := hbz.symm
      have hst : (cpTo (ci (bs S)) k).set k (byt : Int) = cpTo (ci (bs S)) (k + 1) := by
        have := cpTo_step (ci (bs S)) k (by rw [HL.out]; exact hlt)
        rw [Gf.ci_getD, ← hbyt] at this
        exact this
      have W := hide (ho.put k (byt : Int))
      have ST := hide hst
      have B := hide hb
      clear hold ho hb hst hcl hbyt hbz
      go_wp2
      go_roundw
      case rel =>
        refine ⟨k + 1, by omega, by go_num, ?_, B.out.setCell (Nat.le_refl _) _⟩
        have := W.out.1
        rw [ST.out] at this
        exact this
      case measure => simp [intOf]; omega
    · obtain rfl : k = S.size := by omega
      have h := ho
      have e := cpTo_end (ci (bs S))
      rw [HL.out] at e
      rw [e] at h
      have O := hide h
      have B := hide hb
      clear ho hb h e
      go_wp2
      go_ret
      exact ⟨_, rfl, O.out, B.out⟩

set_option maxRecDepth 100000 in
set_option maxHeartbeats 800000 in
theorem bodyOf_calls (v : Value) (l : List Nat) (w : World) (h : Rd w v (ci l)) (hl : ∀ b ∈ l, b < 256) (hn : l.length ≤ 4096) :
    Calls Tryz.prog 147 #[v] w fun e w' => e = .returned (.string (ofN l)) ∧ Below w.heap.size w w' := by
  obtain ⟨a, cap, hv, m1, m2, m3⟩ := h
  rw [Gf.ci_length] at hv m3
  subst hv
  have M3 := hide m3
  have HL := hide hl
  clear m1 m2 m3 hl
  go_enter Tryz.func147, Tryz.ntmps147
  go_wp2_with (at_make; refine wpList_make_bytes rfl _ _ rfl w.heap.size _ _ l.length rfl rfl (by omega) (by omega) (by omega) (Nat.le_refl _) ?_)
  intro w2 hown hgrow
  have Z2 := hide (zrow_made hown)
  have B2 := hide (grown_none hgrow)
  clear hown hgrow
  go_wp2
  go_loopw [4, 5, 11] (fun _ _ vi wr => ∃ k : Nat, k ≤ l.length ∧ vi = .int .i64 k ∧ ZRow wr w.heap.size (l.take k ++ List.replicate (l.length - k) 0) ∧ Below w.heap.size w wr) (fun _ _ vi _ => l.length - (intOf vi).toNat)
  case atStart => exact ⟨0, Nat.zero_le _, rfl, by simpa using Z2.out, B2.out⟩
  case round =>
    obtain ⟨k, hk, rfl, hz, hb⟩ := hrel
    have HB := hide hb
    have HZ := hide hz
    by_cases hlt : k < l.length
    · have hlt' : (k : Int) < (l.length : Int) := by omega
      rcases M3.out with h3 | ⟨b, off, rfl, hbs, hc⟩
      · have : l = [] := by simpa [ci] using h3
        rw [this] at hlt
        simp at hlt
      have hck : wr.cell? ⟨b, off + k, none⟩ = some (.int .i64 ((l.getD k 0 : Nat) : Int)) := by
        rw [← Gf.ci_getD]
        exact (hb.cell (p := ⟨b, off + k, none⟩) hbs).trans (hc k hlt)
      have hx256 : l.getD k 0 < 256 := by
        rw [List.getD_eq_getElem?_getD, List.getElem?_eq_getElem hlt]
        exact HL.out _ (List.getElem_mem hlt)
      have hst : (l.take k ++ List.replicate (l.length - k) 0).set k (l.getD k 0) = l.take (k + 1) ++ List.replicate (l.length - (k + 1)) 0 := by
        obtain ⟨n, hn'⟩ : ∃ n, l.length - k = n + 1 := ⟨l.length - k - 1, by omega⟩
        have hn2 : l.length - (k + 1) = n := by omega
        rw [hn', hn2, List.replicate_succ, List.set_append_right _ _ (by simp; omega), List.take_succ_eq_append_getElem hlt, List.append_assoc]
        have e2 : k - (l.take k).length = 0 := by simp; omega
        rw [e2, List.set_cons_zero, List.getD_eq_getElem?_getD, List.getElem?_eq_getElem hlt]
        rfl
      have c0 := hz.cell k (by simp; omega)
      have f0 := hz.frozen k
      have ST := hide hst
      generalize l.getD k 0 = x at hck hx256 ST
      have SZ := hide (HZ.out.set k x)
      generalize (l.take k ++ List.replicate (l.length - k) 0).getD k 0 = old at c0
      clear hc hz hb hst HZ
      go_wp2
      go_roundw
      case rel =>
        refine ⟨k + 1, by omega, by go_num, ?_, HB.out.setCell (Nat.le_refl _) _⟩
        have := SZ.out
        rw [ST.out] at this
        exact this
      case measure => simp [intOf]; omega
    · obtain rfl : k = l.length := by omega
      have hz2 : ZRow wr w.heap.size l := by simpa using hz
      have hcv := hz2.conv (n := l.length) (cap := l.length) HL.out (Nat.le_refl _)
      rw [List.take_of_length_le (Nat.le_refl _)] at hcv
      clear hz hz2 hb HZ
      go_wp2
      go_ret
      exact ⟨rfl, HB.out⟩

set_option maxRecDepth 100000 in
set_option maxHeartbeats 800000 in
theorem eachBody_calls (v : Value) (m : List (List Nat)) (w : World) (h : RdM w v (m.map ci)) (hl : ∀ i, i < m.length → (∀ b ∈ m.getD i [], b < 256) ∧ (m.getD i []).length ≤ 4096) (hn : m.length ≤ 24) :
    Calls Tryz.prog 196 #[v, .func (.func 147) #[] #[]] w fun e w' => ∃ v', e = .returned v' ∧ OwnT w' w.heap.size v' (m.map ofN) ∧ Below w.heap.size w w' := by
  have R := hide h
  have HL := hide hl
  obtain ⟨xs, hxs⟩ : ∃ xs, xs = m.map ofN := ⟨_, rfl⟩
  have xl : xs.length = m.length := by rw [hxs, List.length_map]
  have xg : ∀ k, k < m.length → xs.getD k ⟨#[]⟩ = ofN (m.getD k []) := fun k hk => by
    rw [hxs]
    simp only [List.getD_eq_getElem?_getD]
    rw [List.getElem?_map, List.getElem?_eq_getElem hk]
    rfl
  rw [← hxs]
  have XL := hide xl
  have XG := hide xg
  obtain ⟨a, cap, hv, m1, m2, m3⟩ := h
  rw [List.length_map] at hv
  subst hv
  clear hl hxs xl xg m1 m2 m3
  go_enter Tryz.func196, Tryz.ntmps196
  go_wp2_with (at_make; refine wpList_make_texts rfl _ _ rfl w.heap.size _ _ m.length rfl rfl (by omega) (by omega) (by omega) (Nat.le_refl _) ?_)
  intro w0 hown0 hgrow0
  have E0 := hide hown0
  have G0 := hide hgrow0
  clear hown0 hgrow0
  go_wp2
  go_loopw [6, 7, 13] (fun _ _ vi wr => ∃ k : Nat, k ≤ m.length ∧ vi = .int .i64 k ∧ wr.ownsRow w.heap.size 9 1 (.slice (some ⟨w.heap.size, 0, none⟩) m.length m.length) m.length ((cpT xs k).map Value.string) ∧ Below w.heap.size w wr) (fun _ _ vi _ => m.length - (intOf vi).toNat)
  case atStart =>
    refine ⟨0, Nat.zero_le _, rfl, ?_, (Below.refl _ _).grown G0.out (Nat.le_refl _) (fun k h => by cases h)⟩
    rw [cpT_zero, XL.out]
    have := E0.out
    unfold OwnT at this
    rwa [List.length_replicate] at this
  case round =>
    obtain ⟨k, hk, rfl, hown, hb⟩ := hrel
    have O := hide hown
    have HB := hide hb
    by_cases hlt : k < m.length
    · obtain ⟨gb, off, u, rfl, _, hc, hu⟩ := (R.out.below hb).rowAt k (by rw [List.length_map]; exact hlt)
      have hmg : (m.map ci).getD k [] = ci (m.getD k []) := by
        simp only [List.getD_eq_getElem?_getD]
        rw [List.getElem?_map, List.getElem?_eq_getElem hlt]
        rfl
      rw [hmg] at hu
      obtain ⟨q1, q2⟩ := HL.out k hlt
      have U := hide hu
      have Q1 := hide q1
      have STP := hide (cpT_step xs k (by rw [XL.out]; exact hlt))
      have XGk := hide (XG.out k hlt)
      rw [XG.out k hlt] at STP
      generalize m.getD k [] = z at U Q1 q2 STP XGk
      have hlt' : (k : Int) < (m.length : Int) := by omega
      clear hown hb hmg hu q1
      obtain ⟨ua, uc, hu2, _⟩ := U.out
      rw [Gf.ci_length] at hu2
      subst hu2
      go_wp2_with fail
      refine (bodyOf_calls _ z _ U.out Q1.out q2).mono ?_
      rintro e w1 ⟨rfl, b1⟩
      have o1 := ownsRow_below O.out b1
      have hc2 : w1.frozen? ⟨w.heap.size, k, none⟩ = false := o1.frozenAt k
      obtain ⟨old, hc3⟩ : ∃ old, w1.cell? ⟨w.heap.size, k, none⟩ = some old := by
        rw [o1.cellAt k (by omega)]
        have := cpT_length xs k (by rw [XL.out]; exact hk)
        rw [XL.out] at this
        exact ⟨_, List.getElem?_eq_getElem (by simp; omega)⟩
      have KK := hide (o1.stored k (.string (ofN z))).1
      have B1 := hide ((HB.out.trans (b1.mono HB.out.size)).setCell (p := ⟨w.heap.size, k, none⟩) (Nat.le_refl _) (.string (ofN z)))
      clear o1 b1 hc
      generalize ofN z = zz at KK B1 STP ⊢
      go_wp2
      go_roundw
      case rel =>
        refine ⟨k + 1, by omega, by go_num, ?_, B1.out⟩
        have := KK.out
        rw [← List.map_set, STP.out] at this
        exact this
      case measure => simp [intOf]; omega
    · obtain rfl : k = m.length := by omega
      clear hown hb
      have o1 := O.out
      have e := cpT_end xs
      rw [XL.out] at e
      rw [e] at o1
      have O1 := hide o1
      clear o1
      go_wp2
      go_ret
      refine ⟨_, rfl, ?_, HB.out⟩
      show World.ownsRow _ _ _ _ _ xs.length _
      rw [XL.out]
      exact O1.out
end Go.Proofs.YtbgadbokejaomaaGreatDoor

namespace Go.Proofs.YtbgadbokejaomaaGreatDoor
open Go.RowKit
open Gf (ci nat)
set_option linter.unusedVariables false

theorem ci_el {l : List Nat} (h : ∀ b ∈ l, b < 256) : (ci l).all Gf.elOk = true := by
  rw [List.all_eq_true]
  intro x hx
  unfold ci at hx
  obtain ⟨b, hb, rfl⟩ := List.mem_map.1 hx
  have := h b hb
  simp only [Gf.elOk, decide_eq_true_eq]
  omega
set_option maxRecDepth 100000 in
theorem conv_zst (n : Nat) (W W' : World) (h : Below (W.alloc (.cells (madeCells #[.int .u8 0] n) 5)).heap.size (W.alloc (.cells (madeCells #[.int .u8 0] n) 5)) W') :
    (convert 56 9 (.slice (some ⟨W.heap.size, 0, none⟩) n n)).run Tryz.prog W' = .ok (.string (zst n)) W' := by
  have hz : ZRow W' W.heap.size (List.replicate n 0) := by
    unfold ZRow
    rw [h.block W.heap.size (by simp), heap_alloc_new]
    congr 2
    apply Array.ext'
    rw [toList_madeCells_one]
    simp [u8v]
  have := hz.conv (n := n) (cap := n) (fun y hy => by have := (List.mem_replicate.1 hy).2; omega) (by simp)
  rw [List.take_of_length_le (by simp)] at this
  rw [this]
  congr 2
  apply bs_inj
  rw [bs_zst, bs_ofN (fun y hy => by have := (List.mem_replicate.1 hy).2; omega)]

end Go.Proofs.YtbgadbokejaomaaGreatDoor

namespace Go.Proofs.YtbgadbokejaomaaGreatDoor
open Go.RowKit
set_option linter.unusedVariables false

def fl9 (xs : List ByteArray) : List Nat := xs.flatMap bs
theorem fl9_snoc (xs : List ByteArray) (k : Nat) (h : k < xs.length) : fl9 (xs.take (k + 1)) = fl9 (xs.take k) ++ bs (xs.getD k ⟨#[]⟩) := by
  unfold fl9
  rw [List.take_succ_eq_append_getElem h, List.flatMap_append, List.getD_eq_getElem?_getD, List.getElem?_eq_getElem h]
  simp
theorem fl9_small (xs : List ByteArray) : ∀ b ∈ fl9 xs, b < 256 := by
  intro b hb
  obtain ⟨s, _, hs⟩ := List.mem_flatMap.1 hb
  exact bs_lt s b hs
theorem fl9_mono (xs : List ByteArray) (k : Nat) : (fl9 (xs.take k)).length ≤ (fl9 xs).length := by
  conv => rhs; rw [← List.take_append_drop k xs]
  unfold fl9
  rw [List.flatMap_append, List.length_append]
  exact Nat.le_add_right _ _
theorem strCells_bs9 (s : ByteArray) : Go.Lib.strCells s = (bs s).map u8v := by
  unfold Go.Lib.strCells bs
  rw [List.map_map]
  rfl
theorem infoU8j : (Tryz.prog.info? 5).map (fun i => (i.zero, i.size, i.bytes)) = some (some (.int .u8 0), 1, 1) := by kernel_rfl
theorem own_conv9 {w : World} {base g n cap : Nat} {l : List Nat} (h : w.ownsRow base 5 1 (.slice (some ⟨g, 0, none⟩) n cap) n (l.map u8v)) (hl : ∀ b ∈ l, b < 256) :
    (convert 56 9 (.slice (some ⟨g, 0, none⟩) n cap)).run Tryz.prog w = .ok (.string (ofN l)) w := by
  have hn : l.length = n := by have := h.1; simpa using this
  have := run_convert_bytes_back (P := Tryz.prog) w 56 9 5 ⟨g, 0, none⟩ cap (l.map UInt8.ofNat) Tryz.underlying56 Tryz.underlying5 Tryz.underlying9 (fun j hj => by
    have hj' : j < l.length := by simpa using hj
    have hadd : (⟨g, 0, none⟩ : Addr).add j = ⟨g, 0 + j, none⟩ := by unfold Addr.add; split <;> simp_all
    rw [hadd, Nat.zero_add, World.ownsRow.cellAt h j (by omega), List.getElem?_map, List.getElem?_eq_getElem hj', List.getElem_map]
    show some (u8v l[j]) = _
    unfold u8v
    rw [UInt8.toNat_ofNat', Nat.mod_eq_of_lt (hl _ (List.getElem_mem hj'))])
  rw [List.length_map, hn] at this
  exact this

set_option maxRecDepth 100000 in
set_option maxHeartbeats 800000 in
theorem joinTexts_calls (v : Value) (xs : List ByteArray) (w : World) (h : RdT w v xs) (hn : xs.length ≤ 1048576) (hF : (fl9 xs).length ≤ 1048576) (hs : ∀ i, i < xs.length → (xs.getD i ⟨#[]⟩).size ≤ 1048576) :
    Calls Tryz.prog 231 #[v] w fun e w' => e = .returned (.string (ofN (fl9 xs))) ∧ Below w.heap.size w w' := by
  obtain ⟨a, cap, rfl, hl1, h2, h4, h3⟩ := h
  have H3 := hide h3
  have HS := hide hs
  clear h3 h4 hs hl1 h2
  obtain ⟨i0, hi, hz0, hz1, hz2⟩ := info_parts infoU8j
  have IP := hide (And.intro hi (And.intro hz0 (And.intro hz1 hz2)))
  clear hi hz0 hz1 hz2
  have O0 : Hid ((w.alloc (.cells #[] 5)).ownsRow w.heap.size 5 1 (.slice (some ⟨w.heap.size, 0, none⟩) 0 0) 0 (([] : List Nat).map u8v)) := by
    show World.ownsRow _ _ _ _ _ _ _
    have := World.ownsRow_lit (base := w.heap.size) (e := 5) (size := 1) w #[] 0 (Nat.le_refl _) (by unfold maxLen; omega) (by simp)
    simpa using this
  go_enter Tryz.func231, Tryz.ntmps231
  go_wp2
  go_loopw [3, 9] (fun vt vi wr => ∃ (k g c : Nat), k ≤ xs.length ∧ vi = .int .i64 k ∧ vt = .slice (some ⟨g, 0, none⟩) (fl9 (xs.take k)).length c ∧ wr.ownsRow w.heap.size 5 1 (.slice (some ⟨g, 0, none⟩) (fl9 (xs.take k)).length c) (fl9 (xs.take k)).length ((fl9 (xs.take k)).map u8v) ∧ Below w.heap.size w wr) (fun _ vi _ => xs.length - (intOf vi).toNat)
  case atStart => exact ⟨0, w.heap.size, 0, Nat.zero_le _, rfl, rfl, O0.out, (Below.refl _ w).alloc (Nat.le_refl _) _⟩
  case round =>
    obtain ⟨k, g, c, hk, rfl, rfl, hown, hb⟩ := hrel
    have O := hide hown
    have HB := hide hb
    have hgl : w.heap.size ≤ g := by
      rcases hown.2 with ⟨h', _⟩ | ⟨g', cap', cur, h', hbg, _⟩
      · simp at h'
      · simp at h'; omega
    have hfl := fl9_mono xs k
    by_cases hlt : k < xs.length
    · rcases H3.out with h3 | ⟨b, off, rfl, hbs, hc⟩
      · subst h3; simp at hlt
      have hc1 : wr.cell? ⟨b, off + k, none⟩ = some (.string (xs.getD k ⟨#[]⟩)) := (hb.cell (p := ⟨b, off + k, none⟩) hbs).trans (hc k hlt)
      have hz := HS.out k hlt
      have hsn := fl9_snoc xs k hlt
      obtain ⟨z, hzz⟩ : ∃ z, z = xs.getD k ⟨#[]⟩ := ⟨_, rfl⟩
      rw [← hzz] at hc1 hz hsn
      have HSN := hide hsn
      have hlt' : (k : Int) < (xs.length : Int) := by omega
      clear hzz hc hsn hown hb
      obtain ⟨m, hm2⟩ : ∃ m, m = (fl9 (xs.take k)).length := ⟨_, rfl⟩
      have HM := hide hm2
      have oo := O.out
      rw [← hm2] at oo hfl ⊢
      have OO := hide oo
      clear hm2 oo
      have hbb : w.heap.size ≤ wr.heap.size := HB.out.size
      go_wp2_with (at_builtin; refine Go.Lib.wpList_append_own_string (w := wr) rfl _ _ _ _ rfl w.heap.size 5 i0 Tryz.underlying56 Tryz.underlying9 IP.out.1 IP.out.2.1 IP.out.2.2.1 IP.out.2.2.2 _ m _ rfl OO.out z rfl (by unfold maxLen; omega) (by omega) hbb ?_)
      intro v' w2 o2 g2 hnil
      have B2 := hide (HB.out.grown g2 HB.out.size (fun j hj => by simp [Value.ownBlock] at hj; omega))
      have o3 := o2
      rw [strCells_bs9, ← List.map_append, ← HSN.out] at o3
      rcases o3.2 with ⟨h', _⟩ | ⟨g', cap', cur, h', _⟩
      · exact absurd h' hnil
      have O3 := hide o3
      have H' := hide h'
      clear o2 o3 g2 hnil h'
      go_wp2
      go_roundw
      case rel =>
        have e : (fl9 (xs.take (k + 1))).length = m + z.size := by rw [HSN.out, List.length_append, bs_length, HM.out]
        refine ⟨k + 1, g', cap', by omega, by go_num, by rw [H'.out, e], ?_, B2.out⟩
        rw [e, ← H'.out]
        exact O3.out
      case measure => simp [intOf]; omega
    · obtain rfl : k = xs.length := by omega
      have oo := O.out
      rw [List.take_length] at oo ⊢
      have hcv := own_conv9 oo (fl9_small xs)
      clear oo hown hb
      go_wp2
      go_ret
      exact ⟨rfl, HB.out⟩

end Go.Proofs.YtbgadbokejaomaaGreatDoor

namespace Go.Proofs.YtbgadbokejaomaaGreatDoor
open Go.RowKit
set_option linter.unusedVariables false

/-- The i-th text may stand there. -/
abbrev gd (xs : List ByteArray) (i : Nat) : Prop := (1 ≤ (xs.getD i ⟨#[]⟩).size ∧ (xs.getD i ⟨#[]⟩).size ≤ 16) ∧ (i + 1 < xs.length → (xs.getD i ⟨#[]⟩).size = 16)
abbrev joinOk (xs : List ByteArray) : Prop := (1 ≤ xs.length ∧ xs.length ≤ 10) ∧ ∀ i, i < xs.length → gd xs i
def fl (xs : List ByteArray) : List Nat := xs.flatMap bs
def jnbR (xs : List ByteArray) : ByteArray × Bool := if joinOk xs then (ofN (fl xs), true) else (⟨#[]⟩, false)
theorem fl_snoc (xs : List ByteArray) (k : Nat) (h : k < xs.length) : fl (xs.take (k + 1)) = fl (xs.take k) ++ bs (xs.getD k ⟨#[]⟩) := by
  unfold fl
  rw [List.take_succ_eq_append_getElem h, List.flatMap_append, List.getD_eq_getElem?_getD, List.getElem?_eq_getElem h]
  simp
theorem fl_len (xs : List ByteArray) (k : Nat) (hk : k ≤ xs.length) (h : ∀ i, i < k → (xs.getD i ⟨#[]⟩).size ≤ 16) : (fl (xs.take k)).length ≤ 16 * k := by
  induction k with
  | zero => simp [fl]
  | succ k ih =>
    rw [fl_snoc xs k (by omega), List.length_append, bs_length]
    have := ih (by omega) (fun i hi => h i (by omega))
    have := h k (by omega)
    omega

set_option maxRecDepth 100000 in
theorem hasBodies_yes (n : Int) (w : World) (h0 : 1 ≤ n) (h1 : n ≤ 10) : Calls Tryz.prog 229 #[.int .i64 n] w fun e w' => e = .returned (.bool true) ∧ w = w' := by
  go_enter Tryz.func229, Tryz.ntmps229
  go_wp2
  go_ret
  exact ⟨rfl, rfl⟩
set_option maxRecDepth 100000 in
theorem hasBodies_no (n : Int) (w : World) (h : n < 1 ∨ 10 < n) : Calls Tryz.prog 229 #[.int .i64 n] w fun e w' => e = .returned (.bool false) ∧ w = w' := by
  rcases h with h | h
  · go_enter Tryz.func229, Tryz.ntmps229
    go_wp2
    go_ret
    exact ⟨rfl, rfl⟩
  · have h0 : 1 ≤ n := by omega
    have hd : decide (n ≤ 10) = false := decide_eq_false (by omega)
    go_enter Tryz.func229, Tryz.ntmps229
    go_wp2
    go_ret
    exact ⟨rfl, rfl⟩
set_option maxRecDepth 100000 in
theorem isFull_calls (s : ByteArray) (w : World) (hs : s.size ≤ maxLen) : Calls Tryz.prog 256 #[.string s] w fun e w' => e = .returned (.bool (decide (s.size = 16))) ∧ w = w' := by
  unfold maxLen at hs
  by_cases h : s.size = 16
  · have h' : (s.size : Int) = 16 := by omega
    go_enter Tryz.func256, Tryz.ntmps256
    go_wp2
    go_ret
    exact ⟨by simp [h], rfl⟩
  · have h' : ¬ (s.size : Int) = 16 := by omega
    have h2 : ((s.size : Int) == 16) = false := by simp; omega
    go_enter Tryz.func256, Tryz.ntmps256
    go_wp2
    go_ret
    exact ⟨by simp [h], rfl⟩

set_option maxRecDepth 100000 in
set_option maxHeartbeats 400000 in
theorem allFull_calls (v : Value) (xs : List ByteArray) (w : World) (h : RdT w v xs) :
    Calls Tryz.prog 157 #[v, .func (.func 256) #[] #[]] w fun e w' => e = .returned (.bool (decide (∀ i, i < xs.length → (xs.getD i ⟨#[]⟩).size = 16))) ∧ w = w' := by
  obtain ⟨a, cap, rfl, h1, h2, h4, h3⟩ := h
  have hm : xs.length ≤ maxLen := by omega
  unfold maxLen at hm
  have H3 := hide h3
  have H4 := hide h4
  clear h3 h4 h2 h1
  go_enter Tryz.func157, Tryz.ntmps157
  go_wp2
  go_loop [9] (fun vi => ∃ k : Nat, k ≤ xs.length ∧ vi = .int .i64 k ∧ ∀ i, i < k → (xs.getD i ⟨#[]⟩).size = 16) (fun vi => xs.length - (intOf vi).toNat)
  case atStart => exact ⟨0, Nat.zero_le _, rfl, fun i hi => by omega⟩
  case round =>
    obtain ⟨k, hk, rfl, hall⟩ := hrel
    have HA := hide hall
    clear hall
    by_cases hlt : k < xs.length
    · rcases H3.out with h3 | ⟨b, off, rfl, hbs, hc⟩
      · subst h3; simp at hlt
      have hc1 := hc k hlt
      have hz : (xs.getD k ⟨#[]⟩).size ≤ maxLen := by
        apply H4.out
        rw [List.getD_eq_getElem?_getD, List.getElem?_eq_getElem hlt]
        exact List.getElem_mem hlt
      clear hc
      obtain ⟨z, hzz⟩ : ∃ z, z = xs.getD k ⟨#[]⟩ := ⟨_, rfl⟩
      rw [← hzz] at hc1 hz
      have HZ := hide hzz
      have hlt' : (k : Int) < (xs.length : Int) := by omega
      clear hzz
      go_wp2_with fail
      refine (isFull_calls z _ hz).mono ?_
      rintro e w1 ⟨rfl, rfl⟩
      by_cases h16 : z.size = 16
      · rw [decide_eq_true h16]
        have H16 := hide h16
        clear h16
        go_wp2
        go_round
        case rel =>
          refine ⟨k + 1, by omega, by go_num, fun i hi => ?_⟩
          by_cases e : i = k
          · subst e; rw [← HZ.out]; exact H16.out
          · exact HA.out i (by omega)
        case measure => simp [intOf]; omega
      · rw [decide_eq_false h16]
        have H16 := hide h16
        clear h16
        go_wp2
        go_ret
        refine ⟨ret_bool ?_, rfl⟩
        symm
        exact decide_eq_false (fun h => H16.out (by rw [HZ.out]; exact h k hlt))
    · obtain rfl : k = xs.length := by omega
      go_wp2
      go_ret
      exact ⟨ret_bool (decide_eq_true HA.out).symm, rfl⟩

theorem getD_take (xs : List ByteArray) (n i : Nat) (h : i < n) (hn : n ≤ xs.length) : (xs.take n).getD i ⟨#[]⟩ = xs.getD i ⟨#[]⟩ := by
  rw [List.getD_eq_getElem?_getD, List.getD_eq_getElem?_getD, List.getElem?_take, if_pos h]
theorem RdT.cut {w : World} {a : Option Addr} {cap n m : Nat} {xs : List ByteArray} (h : RdT w (.slice a m cap) xs) (hn : n ≤ xs.length) : RdT w (.slice a n cap) (xs.take n) := by
  obtain ⟨a', cap', hv, h1, h2, h4, h3⟩ := h
  simp only [Value.slice.injEq] at hv
  obtain ⟨rfl, _, rfl⟩ := hv
  have el : (xs.take n).length = n := by rw [List.length_take]; omega
  refine ⟨a, cap, by rw [el], by rw [el]; omega, h2, fun s hs => h4 s (List.mem_of_mem_take hs), ?_⟩
  rcases h3 with h3 | ⟨b, off, rfl, hlt, hc⟩
  · left; subst h3; simp
  · right
    refine ⟨b, off, rfl, hlt, fun i hi => ?_⟩
    rw [el] at hi
    rw [getD_take xs n i hi hn]
    exact hc i (by omega)
theorem gd_all (xs : List ByteArray) (h1 : 1 ≤ xs.length) : (∀ i, i < xs.length → gd xs i) ↔ ((1 ≤ (xs.getD (xs.length - 1) ⟨#[]⟩).size ∧ (xs.getD (xs.length - 1) ⟨#[]⟩).size ≤ 16) ∧ ∀ i, i < (xs.take (xs.length - 1)).length → ((xs.take (xs.length - 1)).getD i ⟨#[]⟩).size = 16) := by
  have el : (xs.take (xs.length - 1)).length = xs.length - 1 := by rw [List.length_take]; omega
  rw [el]
  constructor
  · intro h
    refine ⟨(h (xs.length - 1) (by omega)).1, fun i hi => ?_⟩
    rw [getD_take xs _ i hi (by omega)]
    exact (h i (by omega)).2 (by omega)
  · rintro ⟨h2, h3⟩ i hi
    by_cases e : i = xs.length - 1
    · subst e
      exact ⟨h2, fun h => by omega⟩
    · have := h3 i (by omega)
      rw [getD_take xs _ i (by omega) (by omega)] at this
      exact ⟨by omega, fun _ => this⟩

set_option maxRecDepth 100000 in
set_option maxHeartbeats 400000 in
theorem areBodies_calls (v : Value) (xs : List ByteArray) (w : World) (h : RdT w v xs) (h1 : 1 ≤ xs.length) :
    Calls Tryz.prog 230 #[v] w fun e w' => e = .returned (.bool (decide (∀ i, i < xs.length → gd xs i))) ∧ w = w' := by
  have R := hide h
  have IFF := hide (gd_all xs h1)
  obtain ⟨a, cap, rfl, hl1, h2, h4, h3⟩ := h
  have hm : xs.length ≤ maxLen := by omega
  unfold maxLen at hm
  have hz : (xs.getD (xs.length - 1) ⟨#[]⟩).size ≤ maxLen := by
    apply h4
    rw [List.getD_eq_getElem?_getD, List.getElem?_eq_getElem (by omega)]
    exact List.getElem_mem _
  unfold maxLen at hz
  rcases h3 with h3 | ⟨b, off, rfl, hbs, hc⟩
  · subst h3; simp at h1
  have hc1 := hc (xs.length - 1) (by omega)
  obtain ⟨z, hzz⟩ : ∃ z, z = xs.getD (xs.length - 1) ⟨#[]⟩ := ⟨_, rfl⟩
  rw [← hzz] at hc1 hz
  have HZ := hide hzz
  clear hzz hc h4 h2
  have t1 : ((xs.length : Int) - 1).toNat = xs.length - 1 := by omega
  have t2 : (0 : Int) ≤ (xs.length : Int) - 1 := by omega
  have t3 : (xs.length : Int) - 1 < (xs.length : Int) := by omega
  have t4 : (xs.length : Int) - 1 ≤ (cap : Int) := by omega
  by_cases hz1 : 1 ≤ z.size
  case neg =>
    have hf : decide (∀ i, i < xs.length → gd xs i) = false := decide_eq_false (fun h => hz1 (by rw [HZ.out]; exact (IFF.out.1 h).1.1))
    have HF := hide hf
    have u1 : ¬ (1 : Int) ≤ (z.size : Int) := by omega
    clear hf
    go_enter Tryz.func230, Tryz.ntmps230
    go_wp2
    go_ret
    exact ⟨ret_bool HF.out.symm, rfl⟩
  by_cases hz2 : z.size ≤ 16
  case neg =>
    have hf : decide (∀ i, i < xs.length → gd xs i) = false := decide_eq_false (fun h => hz2 (by rw [HZ.out]; exact (IFF.out.1 h).1.2))
    have HF := hide hf
    have u1 : (1 : Int) ≤ (z.size : Int) := by omega
    have u2 : ¬ (z.size : Int) ≤ 16 := by omega
    have u3 : decide ((z.size : Int) ≤ 16) = false := decide_eq_false u2
    clear hf
    go_enter Tryz.func230, Tryz.ntmps230
    go_wp2
    go_ret
    exact ⟨ret_bool HF.out.symm, rfl⟩
  have u1 : (1 : Int) ≤ (z.size : Int) := by omega
  have u2 : (z.size : Int) ≤ 16 := by omega
  have RC := hide (R.out.cut (n := xs.length - 1) (by omega))
  have hd : Hid (decide (∀ i, i < (xs.take (xs.length - 1)).length → ((xs.take (xs.length - 1)).getD i ⟨#[]⟩).size = 16) = decide (∀ i, i < xs.length → gd xs i)) := by
    show _ = _
    refine decide_eq_decide.2 ⟨fun h => IFF.out.2 ⟨by rw [← HZ.out]; exact ⟨hz1, hz2⟩, h⟩, fun h => (IFF.out.1 h).2⟩
  generalize decide (∀ i, i < xs.length → gd xs i) = y at hd ⊢
  go_enter Tryz.func230, Tryz.ntmps230
  go_wp2_with fail
  refine (allFull_calls _ _ _ RC.out).mono ?_
  rintro e w1 ⟨rfl, rfl⟩
  rw [hd.out]
  go_wp2
  go_ret
  exact ⟨rfl, rfl⟩

set_option maxRecDepth 100000 in
set_option maxHeartbeats 800000 in
theorem joinBody_calls (v : Value) (xs : List ByteArray) (w : World) (h : RdT w v xs) :
    Calls Tryz.prog 195 #[v] w fun e w' => e = .returned (.tuple #[.string (jnbR xs).1, .bool (jnbR xs).2]) ∧ Below w.heap.size w w' := by
  have R := hide h
  obtain ⟨a, cap, rfl, hl1, h2, h4, h3⟩ := h
  have hm : xs.length ≤ maxLen := by omega
  unfold maxLen at hm
  by_cases hn : 1 ≤ xs.length ∧ xs.length ≤ 10
  case neg =>
    have er : jnbR xs = (⟨#[]⟩, false) := if_neg (fun h => hn h.1)
    rw [er]
    clear er h3 h4
    go_enter Tryz.func195, Tryz.ntmps195
    go_wp2_with fail
    refine (hasBodies_no _ _ (by omega)).mono ?_
    rintro e w1 ⟨rfl, rfl⟩
    go_wp2
    go_ret2
    exact ⟨rfl, Below.refl _ _⟩
  obtain ⟨hn1, hn2⟩ := hn
  by_cases hg : ∀ i, i < xs.length → gd xs i
  case neg =>
    have er : jnbR xs = (⟨#[]⟩, false) := if_neg (fun h => hg h.2)
    have hd : Hid (decide (∀ i, i < xs.length → gd xs i) = false) := decide_eq_false hg
    rw [er]
    clear er h3 h4 hg
    go_enter Tryz.func195, Tryz.ntmps195
    go_wp2_with fail
    refine (hasBodies_yes _ _ (by omega) (by omega)).mono ?_
    rintro e w1 ⟨rfl, rfl⟩
    go_wp2_with fail
    refine (areBodies_calls _ xs _ R.out hn1).mono ?_
    rintro e w1 ⟨rfl, rfl⟩
    rw [hd.out]
    go_wp2
    go_ret2
    exact ⟨rfl, Below.refl _ _⟩
  have er : jnbR xs = (ofN (fl xs), true) := if_pos ⟨⟨hn1, hn2⟩, hg⟩
  have hd : Hid (decide (∀ i, i < xs.length → gd xs i) = true) := decide_eq_true hg
  have hF : (fl9 xs).length ≤ 160 := by
    have := fl_len xs xs.length (Nat.le_refl _) (fun i hi => (hg i hi).1.2)
    rw [List.take_length] at this
    show (fl xs).length ≤ 160
    omega
  have HF := hide hF
  have HS : Hid (∀ i, i < xs.length → (xs.getD i ⟨#[]⟩).size ≤ 1048576) := fun i hi => Nat.le_trans (hg i hi).1.2 (by decide)
  rw [er]
  clear er h3 h4 hg hF
  go_enter Tryz.func195, Tryz.ntmps195
  go_wp2_with fail
  refine (hasBodies_yes _ _ (by omega) (by omega)).mono ?_
  rintro e w1 ⟨rfl, rfl⟩
  go_wp2_with fail
  refine (areBodies_calls _ xs _ R.out hn1).mono ?_
  rintro e w1 ⟨rfl, rfl⟩
  rw [hd.out]
  go_wp2_with fail
  refine (joinTexts_calls _ xs _ R.out (by omega) (Nat.le_trans HF.out (by decide)) HS.out).mono ?_
  rintro e w1 ⟨rfl, b1⟩
  go_wp2
  go_ret2
  exact ⟨rfl, b1⟩


end Go.Proofs.YtbgadbokejaomaaGreatDoor

namespace Go.Proofs.YtbgadbokejaomaaGreatDoor
open Go.RowKit
open Gf (ci nat)
set_option linter.unusedVariables false

set_option maxRecDepth 100000 in
set_option maxHeartbeats 800000 in
theorem l8Text_calls (v : Value) (l : List Nat) (w : World) (h : Rd w v (ci l)) (hl : ∀ b ∈ l, b < 256) (hn : l.length ≤ 4096) :
    Calls Tryz.prog 140 #[v] w fun e w' => e = .returned (.string (ofN l)) ∧ Below w.heap.size w w' := by
  obtain ⟨a, cap, hv, m1, m2, m3⟩ := h
  rw [Gf.ci_length] at hv m3
  subst hv
  have M3 := hide m3
  have HL := hide hl
  clear m1 m2 m3 hl
  go_enter Tryz.func140, Tryz.ntmps140
  go_wp2
  go_loopw [3, 5, 8] (fun vs _ vi wr => ∃ k : Nat, k ≤ l.length ∧ vi = .int .i64 k ∧ vs = .string (ofN (l.take k)) ∧ Below w.heap.size w wr) (fun _ _ vi _ => l.length - (intOf vi).toNat)
  case atStart => exact ⟨0, Nat.zero_le _, rfl, rfl, Below.refl _ _⟩
  case round =>
    obtain ⟨k, hk, rfl, rfl, hb⟩ := hrel
    have HB := hide hb
    by_cases hlt : k < l.length
    · have hlt' : (k : Int) < (l.length : Int) := by omega
      rcases M3.out with h3 | ⟨b, off, rfl, hbs, hc⟩
      · have : l = [] := by simpa [ci] using h3
        rw [this] at hlt
        simp at hlt
      have hck : wr.cell? ⟨b, off + k, none⟩ = some (.int .i64 ((l.getD k 0 : Nat) : Int)) := by
        rw [← Gf.ci_getD]
        exact (hb.cell (p := ⟨b, off + k, none⟩) hbs).trans (hc k hlt)
      have hx256 : l.getD k 0 < 256 := by
        rw [List.getD_eq_getElem?_getD, List.getElem?_eq_getElem hlt]
        exact HL.out _ (List.getElem_mem hlt)
      have NX : Hid (ofN (l.take (k + 1)) = ofN (l.take k) ++ ofN [l.getD k 0]) := by
        show _ = _
        rw [ofN_append, take_snoc l k hlt]
      have tsz : (ofN (l.take k)).size ≤ 4096 := by rw [ofN_size, List.length_take]; omega
      generalize l.getD k 0 = x at hck hx256 NX
      generalize ofN (l.take k) = tt at NX tsz ⊢
      have hbt := byte_text x hx256 wr
      have hadd := run_string_add_sum (P := Tryz.prog) (w := wr.alloc (.cells #[.int .u8 (x : Int)] 5)) tt (ofN [x]) (by rw [ofN_size]; simp; omega)
      have HB2 := hide (HB.out.alloc HB.out.size (.cells #[.int .u8 (x : Int)] 5))
      clear hc hb
      go_wp2
      go_roundw
      case rel => exact ⟨k + 1, by omega, by go_num, by rw [NX.out], HB2.out⟩
      case measure => simp [intOf]; omega
    · obtain rfl : k = l.length := by omega
      rw [List.take_of_length_le (Nat.le_refl _)]
      clear hb
      go_wp2
      go_ret
      exact ⟨rfl, HB.out⟩
end Go.Proofs.YtbgadbokejaomaaGreatDoor
