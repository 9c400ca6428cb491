/-
  Unlike elements and Cauchy's rows: the program's functions and its model's, call by call. The program's table of rests must hold its seven numbers where the program's own function is called. Cauchy's matrix: the program's function and its model's, at all lists. The program's table of rests must hold its seven numbers where the program's own function is called. CauchyMatrix: the program's function and its model's, at all lists. The program's table of rests must hold its seven numbers where the program's own function is called. Cauchy's matrices have inverses, and an answer by rows solves what was asked: plain mathematics over the functions' answers. No call is walked here. Facts for the law of Cauchy's matrices: parts of unlike lists, each element's inverse, each row times the answer.
-/
import Derived.Test.YtogopakmebiomaaDoorWordsB10
import Derived.Test.YtogopakmebiomaaDoorWordsB5
import Derived.Deep.WholeRow
import Derived.Test.YtogopakmebiomaaDoorWordsB6
import Derived.Test.YtogopakmebiomaaDoorWordsB8
namespace Go.Proofs.YtogopakmebiomaaDoor
open Go.RowKit

theorem contains_at {xs : List Int} {x : Int} {k : Nat} (hk : k < xs.length) (h : xs.getD k 0 = x) : xs.contains x = true := by
  rw [List.contains_eq_mem, decide_eq_true_eq, ← h, List.getD_eq_getElem?_getD, List.getElem?_eq_getElem hk, Option.getD_some]
  exact List.getElem_mem hk
theorem contains_no {xs : List Int} {x : Int} (h : ∀ i, i < xs.length → xs.getD i 0 ≠ x) : xs.contains x = false := by
  rw [List.contains_eq_mem, decide_eq_false_iff_not]
  intro hm
  obtain ⟨i, hi, rfl⟩ := List.mem_iff_getElem.1 hm
  refine h i hi ?_
  rw [List.getD_eq_getElem?_getD, List.getElem?_eq_getElem hi, Option.getD_some]

set_option maxRecDepth 100000 in
set_option maxHeartbeats 800000 in
theorem l1Has_calls (v : Value) (xs : List Int) (x : Int) (w : World) (h : Rd w v xs) :
    Calls Tryd.prog 149 #[v, .int .i64 x] w fun e w' => e = .returned (.bool (xs.contains x)) ∧ w = w' := by
  have R := hide h
  obtain ⟨a, cap, rfl, q1, q2, q3⟩ := h
  have hm : xs.length ≤ maxLen := by omega
  unfold maxLen at hm
  clear q1 q2 q3
  obtain ⟨r, hr⟩ : ∃ r, r = xs.contains x := ⟨_, rfl⟩
  rw [← hr]
  have HR := hide hr
  clear hr
  go_enter Tryd.func149, Tryd.ntmps149
  go_wp2
  go_loop [9] (fun vi => ∃ (k : Nat), k ≤ xs.length ∧ vi = .int .i64 k ∧ ∀ i, i < k → xs.getD i 0 ≠ x) (fun vi => xs.length - (intOf vi).toNat)
  case atStart => exact ⟨0, Nat.zero_le _, rfl, fun i hi => by omega⟩
  case round =>
    obtain ⟨k, hk, rfl, hall⟩ := hrel
    have A := hide hall
    clear hall
    by_cases hlt : k < xs.length
    · have hlt' : (k : Int) < (xs.length : Int) := by omega
      obtain ⟨b, off, u, rfl, hc, hu⟩ := R.out.row k hlt
      obtain ⟨y, hy⟩ : ∃ y, y = xs.getD k 0 := ⟨_, rfl⟩
      rw [← hy] at hu
      subst hu
      have Y := hide hy
      clear hy
      by_cases e : y = x
      · have e1 : (y == x) = true := by simp [e]
        have E := hide e
        clear e
        go_wp2
        go_ret
        exact ⟨Gf.ret_bool (by rw [HR.out, contains_at hlt (by rw [← Y.out, E.out])]), rfl⟩
      · have e1 : (y == x) = false := by simp [e]
        have E := hide e
        clear e
        go_wp2
        go_round
        case rel =>
          refine ⟨k + 1, by omega, by go_num, fun i hi => ?_⟩
          by_cases ee : i = k
          · subst ee; rw [← Y.out]; exact E.out
          · exact A.out i (by omega)
        case measure => simp [intOf]; omega
    · obtain rfl : k = xs.length := by omega
      go_wp2
      go_ret
      exact ⟨Gf.ret_bool (by rw [HR.out, contains_no A.out]), rfl⟩
theorem rd_take {w : World} {a : Option Addr} {n cap : Nat} {xs : List Int} (h : Rd w (.slice a n cap) xs) (i : Nat) (hi : i ≤ xs.length) : Rd w (.slice a i cap) (xs.take i) := by
  obtain ⟨a', cap', hv, h1, h2, h3⟩ := h
  simp only [Value.slice.injEq] at hv
  obtain ⟨rfl, rfl, rfl⟩ := hv
  have hl : (xs.take i).length = i := by simp; omega
  refine ⟨a, cap, by rw [hl], by rw [hl]; omega, h2, ?_⟩
  rcases h3 with h3 | ⟨b, off, rfl, hlt, hc⟩
  · subst h3; exact .inl (by simp)
  · refine .inr ⟨b, off, rfl, hlt, fun j hj => ?_⟩
    rw [hl] at hj
    rw [hc j (by omega)]
    simp [List.getD_eq_getElem?_getD, hj]

theorem seenZero : Tryd.zeroCells132 = (List.replicate 256 (Value.bool false)).toArray := by kernel_rfl
theorem seenInfo : (Tryd.prog.info? 132).map (·.size) = some Tryd.zeroCells132.size := by kernel_rfl
theorem seenOne : Tryd.zeroCells132.all (·.oneCell') = true := by kernel_rfl
theorem seen_new (w : World) : (w.alloc (.cells Tryd.zeroCells132 132)).ownsRow w.heap.size 132 1 (.slice (some ⟨w.heap.size, 0, none⟩) 256 256) 256 (seenL []) := by
  have := of_block_V (w := w.alloc (.cells Tryd.zeroCells132 132)) (base := w.heap.size) (g := w.heap.size) (e := 132) (zs := List.replicate 256 (Value.bool false)) (by rw [← seenZero]; exact heap_alloc_last w _) (Nat.le_refl _) (by rw [List.length_replicate]; unfold maxLen; omega)
  rw [seenL_nil]
  rw [List.length_replicate] at this
  exact this
theorem flat_take (ls : List (List Int)) (i : Nat) (h : i < ls.length) : (ls.take (i + 1)).flatten = (ls.take i).flatten ++ ls.getD i [] := by
  rw [take_snoc ls [] i h, List.flatten_append]
  simp
theorem flat_no {ls : List (List Int)} {i k : Nat} (hi : i < ls.length) (h : unl ((ls.take i).flatten ++ (ls.getD i []).take k) = false) : unl ls.flatten = false := by
  have e : ls.flatten = ((ls.take i).flatten ++ (ls.getD i []).take k) ++ ((ls.getD i []).drop k ++ (ls.drop (i + 1)).flatten) := by
    conv => lhs; rw [← List.take_append_drop (i + 1) ls, List.flatten_append, flat_take ls i hi]
    rw [List.append_assoc, List.append_assoc, ← List.append_assoc ((ls.getD i []).take k), List.take_append_drop]
  rw [e]
  exact unl_app h _

set_option maxRecDepth 100000 in
set_option maxHeartbeats 1600000 in
theorem areUnlike_calls (v : Value) (ls : List (List Int)) (w : World) (h : RdM w v ls) (hn : ls.length ≤ 1048576) (hl : ∀ i, i < ls.length → (ls.getD i []).length ≤ 1048576) :
    Calls Tryd.prog 167 #[v] w fun e w' => e = .returned (.bool (unl ls.flatten)) ∧ Below w.heap.size w w' := by
  have R := hide h
  have HL := hide hl
  obtain ⟨a, cap, rfl, _⟩ := h
  clear hl
  obtain ⟨res, hres⟩ : ∃ r, r = unl ls.flatten := ⟨_, rfl⟩
  rw [← hres]
  have RES := hide hres
  clear hres
  have hsc := run_storeCells_new (P := Tryd.prog) w 132 Tryd.zeroCells132 Tryd.zeroCells132 seenInfo rfl seenOne
  have HSC := hide hsc
  clear hsc
  go_enter Tryd.func167, Tryd.ntmps167
  go_wp2
  rw [HSC.out]
  simp only [Result.andThen]
  rw [Oper.upon_skip]
  have O0 := hide (seen_new w)
  have B0 := hide ((Below.refl w.heap.size w).alloc (Nat.le_refl _) (.cells Tryd.zeroCells132 132))
  obtain ⟨w0, hw0⟩ : ∃ w0, w0 = w.alloc (.cells Tryd.zeroCells132 132) := ⟨_, rfl⟩
  rw [← hw0] at O0 B0 ⊢
  clear hw0 HSC
  go_wp2
  go_loopw [11] (fun vi wr => ∃ (i : Nat), i ≤ ls.length ∧ vi = .int .i64 i ∧ unl (ls.take i).flatten = true ∧ wr.ownsRow w.heap.size 132 1 (.slice (some ⟨w.heap.size, 0, none⟩) 256 256) 256 (seenL (ls.take i).flatten) ∧ Below w.heap.size w wr) (fun vi _ => ls.length - (intOf vi).toNat)
  case atStart => exact ⟨0, Nat.zero_le _, rfl, unl_nil, O0.out, B0.out⟩
  case round =>
    obtain ⟨i, hi, rfl, hu, ho, hb⟩ := hrel
    have U := hide hu
    have O := hide ho
    have B := hide hb
    clear hu ho hb
    by_cases hlt : i < ls.length
    · have hlt' : (i : Int) < (ls.length : Int) := by omega
      obtain ⟨b, off, uv, rfl, hbl, hc, hrd⟩ := R.out.rowAt i hlt
      have hc1 : wr.cell? ⟨b, off + i, none⟩ = some uv := (B.out.cell (p := ⟨b, off + i, none⟩) hbl).trans hc
      obtain ⟨r, hr⟩ : ∃ r, r = ls.getD i [] := ⟨_, rfl⟩
      have hrl := HL.out i hlt
      have hft := flat_take ls i hlt
      rw [← hr] at hrd hrl hft
      obtain ⟨pre, hpre⟩ : ∃ p, p = (ls.take i).flatten := ⟨_, rfl⟩
      have hno : ∀ k, unl (pre ++ r.take k) = false → res = false := fun k hk => by
        rw [RES.out]
        exact flat_no hlt (k := k) (by rw [← hr, ← hpre]; exact hk)
      rw [← hpre] at hft
      have hu1 := U.out
      have ho1 := O.out
      rw [← hpre] at hu1 ho1
      have RD := hide hrd
      have NO := hide hno
      have FT := hide hft
      have U1 := hide hu1
      have O1 := hide ho1
      obtain ⟨ua, uc, rfl, _⟩ := hrd
      clear hc hr hft hpre hno hu1 ho1 U O
      go_wp2
      go_loopw [17] (fun vi wr2 => ∃ (k : Nat), k ≤ r.length ∧ vi = .int .i64 k ∧ unl (pre ++ r.take k) = true ∧ wr2.ownsRow w.heap.size 132 1 (.slice (some ⟨w.heap.size, 0, none⟩) 256 256) 256 (seenL (pre ++ r.take k)) ∧ Below w.heap.size w wr2) (fun vi _ => r.length - (intOf vi).toNat)
      case atStart =>
        refine ⟨0, Nat.zero_le _, rfl, ?_, ?_, B.out⟩
        · rw [List.take_zero, List.append_nil]; exact U1.out
        · rw [List.take_zero, List.append_nil]; exact O1.out
      case round =>
        obtain ⟨k, hk, rfl, hu2, ho2, hb2⟩ := hrel
        have U2 := hide hu2
        have O2 := hide ho2
        have B2 := hide hb2
        clear hu2 ho2 hb2
        by_cases hltk : k < r.length
        · have hltk' : (k : Int) < (r.length : Int) := by omega
          obtain ⟨rb, roff, ru, rfl, hrc, hru⟩ := (RD.out.below B2.out).row k hltk
          obtain ⟨x, hx⟩ : ∃ x, x = r.getD k 0 := ⟨_, rfl⟩
          rw [← hx] at hru
          subst hru
          have hsn : unl (pre ++ r.take (k + 1)) = (unl (pre ++ r.take k) && (Gf.elOk x && !(pre ++ r.take k).contains x)) := by
            rw [take_snoc r 0 k hltk, ← hx, ← List.append_assoc, unl_snoc]
          have htk : pre ++ r.take (k + 1) = (pre ++ r.take k) ++ [x] := by rw [take_snoc r 0 k hltk, ← hx, List.append_assoc]
          rw [U2.out, Bool.true_and] at hsn
          have SN := hide hsn
          have TK := hide htk
          clear hsn htk hx
          cases hel : Gf.elOk x with
          | false =>
            have EL := hide hel
            have hf : res = false := NO.out (k + 1) (by rw [SN.out, EL.out]; rfl)
            have F := hide hf
            clear hel hf
            go_wp2_with fail
            refine (Gf.isE_calls x _).mono ?_
            rw [EL.out]
            rintro e w' ⟨rfl, rfl⟩
            go_wp2
            go_ret
            exact ⟨Gf.ret_bool F.out.symm, B2.out⟩
          | true =>
            have EL := hide hel
            obtain ⟨hx0, hx1⟩ := elOk_facts hel
            obtain ⟨n, rfl⟩ := Int.eq_ofNat_of_zero_le hx0
            have hn256 : n < 256 := by omega
            have hcell := World.ownsRow.cellAt O2.out n (by omega)
            rw [seenL_get _ n hn256] at hcell
            have hfr : wr.frozen? ⟨w.heap.size, n, none⟩ = false := World.ownsRow.frozenAt O2.out n
            have ST := hide (World.ownsRow.stored O2.out n (.bool true))
            obtain ⟨c, hcc⟩ : ∃ c, c = (pre ++ r.take k).contains (n : Int) := ⟨_, rfl⟩
            rw [← hcc] at hcell
            have CC := hide hcc
            have i0 : (0 : Int) ≤ (n : Int) := by omega
            have i1 : (n : Int) < 256 := by omega
            clear hel hcc hx0 hx1
            cases c with
            | true =>
              have hf : res = false := NO.out (k + 1) (by rw [SN.out, EL.out, ← CC.out]; rfl)
              have F := hide hf
              clear hf
              go_wp2_with fail
              refine (Gf.isE_calls (n : Int) _).mono ?_
              rw [EL.out]
              rintro e w' ⟨rfl, rfl⟩
              go_wp2
              go_ret
              exact ⟨Gf.ret_bool F.out.symm, B2.out⟩
            | false =>
              go_wp2_with fail
              refine (Gf.isE_calls (n : Int) _).mono ?_
              rw [EL.out]
              rintro e w' ⟨rfl, rfl⟩
              go_wp2
              go_roundw
              case rel =>
                refine ⟨k + 1, by omega, by go_num, ?_, ?_, B2.out.setCell (Nat.le_refl _) _⟩
                · rw [SN.out, EL.out, ← CC.out]; rfl
                · have := ST.out.1
                  rw [seenL_set _ n hn256, ← TK.out] at this
                  exact this
              case measure => simp [intOf]; omega
        · obtain rfl : k = r.length := by omega
          go_wp2
          go_roundw
          case rel =>
            have h1 := U2.out
            have h2 := O2.out
            rw [List.take_of_length_le (Nat.le_refl _), ← FT.out] at h1 h2
            exact ⟨i + 1, by omega, by go_num, h1, h2, B2.out⟩
          case measure => simp [intOf]; omega
    · obtain rfl : i = ls.length := by omega
      have hf : res = true := by
        have := U.out
        rw [List.take_of_length_le (Nat.le_refl _)] at this
        rw [RES.out, this]
      have F := hide hf
      clear hf
      go_wp2
      go_ret
      exact ⟨Gf.ret_bool F.out.symm, B.out⟩
end Go.Proofs.YtogopakmebiomaaDoor

namespace Go.Proofs.YtogopakmebiomaaDoor
open Go.RowKit

theorem rd_single {w : World} {z : Int} : Rd (w.alloc (.cells #[.int .i64 z] 3)) (.slice (some ⟨w.heap.size, 0, none⟩) 1 1) [z] := by
  refine ⟨_, 1, rfl, Nat.le_refl _, ⟨by unfold maxLen; omega, fun h => by cases h⟩, .inr ⟨_, 0, rfl, by simp, fun i hi => ?_⟩⟩
  simp at hi
  subst hi
  exact World.cell?_alloc_at _ _ _ _ (by simp)
theorem cauRow_length (a : Int) (ys : List Int) : (cauRow a ys).length = ys.length := by simp [cauRow]
theorem cauRow_get (a : Int) (ys : List Int) (j : Nat) (h : j < ys.length) : (cauRow a ys).getD j 0 = ((Gf.inv (a.toNat ^^^ (ys.getD j 0).toNat) : Nat) : Int) := by simp [cauRow, List.getD_eq_getElem?_getD, h]
theorem cauM_length (xs ys : List Int) : (cauM xs ys).length = xs.length := by simp [cauM]
theorem cauM_get (xs ys : List Int) (i : Nat) (h : i < xs.length) : (cauM xs ys).getD i [] = cauRow (xs.getD i 0) ys := by simp [cauM, List.getD_eq_getElem?_getD, h]

set_option maxRecDepth 100000 in
set_option maxHeartbeats 1600000 in
theorem l2Cauchy_calls (xv yv : Value) (xs ys : List Int) (w : World) (hx : Rd w xv xs) (hy : Rd w yv ys) (ex : xs.all Gf.elOk = true) (ey : ys.all Gf.elOk = true) (hnx : xs.length ≤ 1048576) (hny : ys.length ≤ 1048576) :
    Calls Tryd.prog 153 #[xv, yv] w fun e w' => ∃ v', e = .returned v' ∧ Mat w' w.heap.size w'.heap.size v' (cauM xs ys) ∧ Below w.heap.size w w' := by
  have RX := hide hx
  have RY := hide hy
  have EX := hide ex
  have EY := hide ey
  obtain ⟨xa, xcap, rfl, _⟩ := hx
  obtain ⟨ya, ycap, rfl, _⟩ := hy
  clear ex ey
  go_enter Tryd.func153, Tryd.ntmps153
  go_wp2
  go_loopw [5, 13] (fun vo vi wr => ∃ (k : Nat) (vs : List Value), k ≤ xs.length ∧ vi = .int .i64 k ∧ MatV wr w.heap.size wr.heap.size vo vs ((cauM xs ys).take k) ∧ Below w.heap.size w wr) (fun _ vi _ => xs.length - (intOf vi).toNat)
  case atStart =>
    obtain ⟨vs, hv⟩ := Mat.nil w w.heap.size w.heap.size
    exact ⟨0, vs, Nat.zero_le _, rfl, hv, Below.refl _ _⟩
  case round =>
    obtain ⟨k, vs, hk, rfl, hm, hb⟩ := hrel
    have M := hide hm
    have B := hide hb
    clear hm hb
    by_cases hlt : k < xs.length
    · have hlt' : (k : Int) < (xs.length : Int) := by omega
      obtain ⟨b, off, u, rfl, hc, hu⟩ := (RX.out.below B.out).row k hlt
      obtain ⟨x, hxx⟩ : ∃ x, x = xs.getD k 0 := ⟨_, rfl⟩
      rw [← hxx] at hu
      subst hu
      obtain ⟨r, hr⟩ : ∃ r, r = cauRow x ys := ⟨_, rfl⟩
      have hrl : r.length = ys.length := by rw [hr, cauRow_length]
      have hrg : ∀ j, j < ys.length → r.getD j 0 = ((Gf.inv (x.toNat ^^^ (ys.getD j 0).toNat) : Nat) : Int) := fun j hj => by rw [hr, cauRow_get _ _ _ hj]
      have hnext : (cauM xs ys).take k ++ [r] = (cauM xs ys).take (k + 1) := by
        rw [take_snoc (cauM xs ys) [] k (by rw [cauM_length]; exact hlt), cauM_get _ _ _ hlt, ← hxx, hr]
      have hex := Gf.elOk_tests (Gf.all_of_getD.1 EX.out k hlt)
      rw [← hxx] at hex
      obtain ⟨A, rfl⟩ := Int.eq_ofNat_of_zero_le hex.1
      have hA : A < 256 := by omega
      have RL := hide hrl
      have RG := hide hrg
      have NX := hide hnext
      obtain ⟨W1, rfl⟩ : ∃ W1, W1 = wr := ⟨_, rfl⟩
      clear hxx hr hrl hrg hnext hex
      go_wp2
      go_loopw [8, 19] (fun vr vi wr2 => ∃ (j : Nat), j ≤ ys.length ∧ vi = .int .i64 j ∧ Own wr2 W1.heap.size vr (r.take j) ∧ Below W1.heap.size W1 wr2) (fun _ vi _ => ys.length - (intOf vi).toNat)
      case atStart => exact ⟨0, Nat.zero_le _, rfl, World.ownsRow_nil _ _ _ _, Below.refl _ _⟩
      case round =>
        obtain ⟨j, hj, rfl, ho, hb2⟩ := hrel
        have O := hide ho
        have B2 := hide hb2
        clear ho hb2
        by_cases hltj : j < ys.length
        · have hltj' : (j : Int) < (ys.length : Int) := by omega
          obtain ⟨yb, yoff, yu, rfl, hyc, hyu⟩ := ((RY.out.below B.out).below B2.out).row j hltj
          obtain ⟨y, hyy⟩ : ∃ y, y = ys.getD j 0 := ⟨_, rfl⟩
          rw [← hyy] at hyu
          subst hyu
          have hey := Gf.elOk_tests (Gf.all_of_getD.1 EY.out j hltj)
          rw [← hyy] at hey
          have hg := RG.out j hltj
          rw [← hyy] at hg
          obtain ⟨Y, rfl⟩ := Int.eq_ofNat_of_zero_le hey.1
          have hY : Y < 256 := by omega
          simp only [Int.toNat_natCast] at hg
          have hxor : bits .xor .i64 ((A : Nat) : Int) ((Y : Nat) : Int) = ((A ^^^ Y : Nat) : Int) := Gf.i64_xor _ _ (by omega) (by omega)
          have hxl : A ^^^ Y < 256 := Nat.xor_lt_two_pow (n := 8) hA hY
          obtain ⟨z, hz⟩ : ∃ z, z = Gf.inv (A ^^^ Y) := ⟨_, rfl⟩
          rw [← hz] at hg
          have CD : Hid (∀ w', Calls Tryd.prog 127 #[.int .i64 1, .int .i64 (bits .xor .i64 ((A : Nat) : Int) ((Y : Nat) : Int))] w' fun e w'' => e = .returned (.int .i64 ((z : Nat) : Int)) ∧ w' = w'') := by
            intro w'
            rw [hxor]
            refine (Gf.l1Div_calls 1 _ w' (by omega) (by omega) (by omega) (by omega)).mono ?_
            rintro e w'' ⟨rfl, rfl⟩
            refine ⟨?_, rfl⟩
            have e1 : Gf.mul (Int.toNat 1) (Gf.inv (Int.toNat ((A ^^^ Y : Nat) : Int))) = z := by
              rw [Int.toNat_natCast, hz]
              exact Gf.one_mul _ (Gf.inv_lt _)
            rw [e1]
          have HG := hide hg
          have hl2 : (r.take j).length = j := by rw [List.length_take, RL.out]; omega
          have HL2 := hide hl2
          clear hyy hey hg hxor hxl hz hl2
          go_wp2_with fail
          refine (CD.out _).mono ?_
          rintro e w2 ⟨rfl, rfl⟩
          have O2 := hide (O.out.alloc (.cells #[.int .i64 ((z : Nat) : Int)] 3))
          go_wp2_with (at_builtin; refine wpList_append_rd rfl _ _ rfl W1.heap.size _ (r.take j).length (r.take j) [((z : Nat) : Int)] rfl O2.out _ rfl rd_single (by rw [HL2.out]; simp; omega) (by have := B2.out.size; simp; omega) ?_)
          intro v' w3 ho3 hg3
          have hb3 : Below W1.heap.size W1 w3 := (B2.out.alloc B2.out.size _).grown hg3 (by have := B2.out.size; simp; omega) (fun i hi => (O.out.lt i hi).1)
          have e : r.take j ++ [((z : Nat) : Int)] = r.take (j + 1) := by rw [take_snoc r 0 j (by rw [RL.out]; exact hltj), HG.out]
          rw [e] at ho3
          have O3 := hide ho3
          have B3 := hide hb3
          clear ho3 hg3 hb3 e
          go_wp2
          go_roundw
          case rel => exact ⟨j + 1, by omega, by go_num, O3.out, B3.out⟩
          case measure => simp [intOf]; omega
        · obtain rfl : j = ys.length := by omega
          have ho := O.out
          rw [← RL.out, List.take_of_length_le (Nat.le_refl _)] at ho
          obtain ⟨ra, rn, rc, rfl⟩ := ho.shape
          have OO := hide ho
          clear ho O
          go_wp2_with (at_builtin; refine wpList_append_row rfl _ _ rfl w.heap.size W1.heap.size _ vs ((cauM xs ys).take k) rfl M.out (B2.out.alloc B2.out.size _) _ r (OO.out.below ((Below.refl _ _).alloc (Nat.le_refl _) _)) (Nat.le_refl _) B.out.size _ rfl (World.cell?_alloc_at _ _ _ _ (by simp)) (by simp; omega) ?_)
          intro v2 w2 hM2 hB2
          rw [NX.out] at hM2
          have M2 := hide hM2
          have B3 := hide hB2
          clear hM2 hB2
          go_wp2
          go_roundw
          case rel => exact ⟨k + 1, _, by omega, by go_num, M2.out, B.out.trans B3.out⟩
          case measure => simp [intOf]; omega
    · obtain rfl : k = xs.length := by omega
      go_wp2
      go_ret
      have hm := M.out
      rw [List.take_of_length_le (by rw [cauM_length]; exact Nat.le_refl _)] at hm
      exact ⟨_, rfl, ⟨_, hm⟩, B.out⟩
end Go.Proofs.YtogopakmebiomaaDoor

namespace Go.Proofs.YtogopakmebiomaaDoor
open Go.RowKit

def cauOk (xs ys : List Int) : Bool := decide (1 ≤ (xs.length : Int) ∧ (xs.length : Int) ≤ 8) && (decide (1 ≤ (ys.length : Int) ∧ (ys.length : Int) ≤ 8) && unl (xs ++ ys))
def cauR (xs ys : List Int) : List (List Int) × Bool := if cauOk xs ys = true then (cauM xs ys, true) else ([], false)
theorem cauOk_facts {xs ys : List Int} (h : cauOk xs ys = true) : (1 ≤ xs.length ∧ xs.length ≤ 8) ∧ (1 ≤ ys.length ∧ ys.length ≤ 8) ∧ unl (xs ++ ys) = true := by
  simp only [cauOk, Bool.and_eq_true, decide_eq_true_eq] at h
  exact ⟨by omega, by omega, h.2.2⟩
theorem unl_parts {xs ys : List Int} (h : unl (xs ++ ys) = true) : xs.all Gf.elOk = true ∧ ys.all Gf.elOk = true := by
  have := unl_els h
  rw [List.all_append, Bool.and_eq_true] at this
  exact this
theorem cauR_tot (xs ys : List Int) : (cauR xs ys).1.length + tot (cauR xs ys).1 ≤ 1048576 := by
  unfold cauR
  split
  · rename_i h
    obtain ⟨h1, h2, _⟩ := cauOk_facts h
    simp only []
    have : ∀ k, k ≤ xs.length → tot ((cauM xs ys).take k) ≤ 8 * k := by
      intro k
      induction k with
      | zero => intro _; simp [tot]
      | succ k ih =>
        intro hk
        rw [tot_take_succ _ k (by rw [cauM_length]; omega), cauM_get _ _ k (by omega), cauRow_length]
        have := ih (by omega)
        omega
    have := this xs.length (Nat.le_refl _)
    rw [List.take_of_length_le (by rw [cauM_length]; exact Nat.le_refl _)] at this
    rw [cauM_length]
    omega
  · simp [tot]
theorem rdM_pair {w : World} {xv yv : Value} {xs ys : List Int} (hx : Rd w xv xs) (hy : Rd w yv ys) : RdM (w.alloc (.cells #[xv, yv] 22)) (.slice (some ⟨w.heap.size, 0, none⟩) 2 2) [xs, ys] := by
  have hb : Below w.heap.size w (w.alloc (.cells #[xv, yv] 22)) := (Below.refl _ _).alloc (Nat.le_refl _) _
  refine ⟨_, 2, rfl, Nat.le_refl _, ⟨by unfold maxLen; omega, fun h => by cases h⟩, .inr ⟨_, 0, rfl, by simp, fun i hi => ?_⟩⟩
  simp at hi
  match i, hi with
  | 0, _ => exact ⟨xv, World.cell?_alloc_at _ _ _ _ (by simp), hx.below hb⟩
  | 1, _ => exact ⟨yv, World.cell?_alloc_at _ _ _ _ (by simp), hy.below hb⟩

set_option maxRecDepth 100000 in
set_option maxHeartbeats 3200000 in
theorem cauchy_good (xv yv : Value) (xs ys : List Int) (w : World) (hT : Gf.Tab w) (hx : Rd w xv xs) (hy : Rd w yv ys) (hok : cauOk xs ys = true) :
    Calls Tryd.prog 145 #[xv, yv] w fun e w' => ∃ v', e = .returned (.tuple #[v', .bool true]) ∧ Mat w' w.heap.size w'.heap.size v' (cauM xs ys) ∧ Below w.heap.size w w' := by
  obtain ⟨⟨hx1, hx8⟩, ⟨hy1, hy8⟩, hu⟩ := cauOk_facts hok
  obtain ⟨ex, ey⟩ := unl_parts hu
  have RX := hide hx
  have RY := hide hy
  have T := hide hT
  have EX := hide ex
  have EY := hide ey
  have U := hide hu
  have UP : Hid (unl ([xs, ys] : List (List Int)).flatten = true) := by
    show unl ([xs, ys] : List (List Int)).flatten = true
    simpa using hu
  obtain ⟨xa, xcap, rfl, _⟩ := hx
  obtain ⟨ya, ycap, rfl, _⟩ := hy
  have b1 : Hid (decide (1 ≤ (xs.length : Int) ∧ (xs.length : Int) ≤ 8) = true) := decide_eq_true (by omega)
  have b2 : Hid (decide (1 ≤ (ys.length : Int) ∧ (ys.length : Int) ≤ 8) = true) := decide_eq_true (by omega)
  obtain ⟨P, hP⟩ : ∃ P, P = cauM xs ys := ⟨_, rfl⟩
  rw [← hP]
  have hPl : P.length = xs.length := by rw [hP, cauM_length]
  have hPg : ∀ k, k < xs.length → P.getD k [] = cauRow (xs.getD k 0) ys := fun k hk => by rw [hP, cauM_get _ _ _ hk]
  have PL := hide hPl
  have PG := hide hPg
  obtain ⟨l, hl⟩ : ∃ l, l = ys.length := ⟨_, rfl⟩
  have HL := hide hl
  clear hT hok hu ex ey hP hPl hPg hl
  go_enter Tryd.func145, Tryd.ntmps145
  go_wp2_with fail
  refine (isSide_calls _ _).mono ?_
  rw [b1.out]
  rintro e w' ⟨rfl, rfl⟩
  go_wp2_with fail
  refine (isSide_calls _ _).mono ?_
  rw [b2.out]
  rintro e w' ⟨rfl, rfl⟩
  go_wp2_with fail
  refine (areUnlike_calls _ [xs, ys] _ (rdM_pair RX.out RY.out) (by simp) (fun i hi => by simp at hi; match i, hi with | 0, _ => (show xs.length ≤ _; omega) | 1, _ => (show ys.length ≤ _; omega))).mono ?_
  rw [UP.out]
  rintro e w2 ⟨rfl, hb2⟩
  have h0 : Below w.heap.size w (w.alloc (.cells #[.slice xa xs.length xcap, .slice ya ys.length ycap] 22)) := (Below.refl _ _).alloc (Nat.le_refl _) _
  have B2 := hide (h0.trans (hb2.mono h0.size))
  clear hb2 h0
  go_wp2_with fail
  refine (newRows_calls xs.length ys.length _ (by omega) (by omega)).mono ?_
  rintro e w3 ⟨v3, rfl, ⟨vs, hm⟩, hb3⟩
  rw [← HL.out, ← PL.out, ← gTo_zero] at hm
  obtain ⟨g, cap, hv3, hg1, hg2, hg3, hg4⟩ := hm.open (by rw [gTo_length _ _ _ (Nat.zero_le _), PL.out]; omega)
  rw [gTo_length _ _ _ (Nat.zero_le _), PL.out] at hv3 hg3
  subst hv3
  have M3 := hide hm
  have B3 := hide (B2.out.trans (hb3.mono B2.out.size))
  have hs23 : w.heap.size ≤ w2.heap.size := B2.out.size
  have S2 : 0 < w2.heap.size := Nat.lt_of_lt_of_le (Gf.tab_pos T.out) hs23
  clear hm hb3
  go_wp2
  go_loopw [35] (fun vi wr => ∃ (k : Nat), k ≤ xs.length ∧ vi = .int .i64 k ∧ MatV wr w2.heap.size w3.heap.size (.slice (some ⟨g, 0, none⟩) xs.length cap) vs (gTo P (List.replicate l 0) k) ∧ Chg w2.heap.size w3.heap.size w3 wr) (fun vi _ => xs.length - (intOf vi).toNat)
  case atStart => exact ⟨0, Nat.zero_le _, rfl, M3.out, Chg.refl _ _ _⟩
  case round =>
    obtain ⟨k, hk, rfl, hM, hC⟩ := hrel
    by_cases hlt : k < xs.length
    · have hlt' : (k : Int) < (xs.length : Int) := by omega
      have BW := hide (B3.out.trans (hC.below hs23 B3.out.size))
      obtain ⟨b, off, u, rfl, hc, hu⟩ := (RX.out.below BW.out).row k hlt
      obtain ⟨x, hxx⟩ : ∃ x, x = xs.getD k 0 := ⟨_, rfl⟩
      rw [← hxx] at hu
      subst hu
      have hex := Gf.elOk_tests (Gf.all_of_getD.1 EX.out k hlt)
      rw [← hxx] at hex
      have hpg := PG.out k hlt
      rw [← hxx] at hpg
      obtain ⟨A, rfl⟩ := Int.eq_ofNat_of_zero_le hex.1
      have hA : A < 256 := by omega
      obtain ⟨r, hr⟩ : ∃ r, r = cauRow ((A : Nat) : Int) ys := ⟨_, rfl⟩
      have hrl : r.length = l := by rw [hr, cauRow_length, HL.out]
      have hrg : ∀ j, j < ys.length → r.getD j 0 = ((Gf.inv (A ^^^ (ys.getD j 0).toNat) : Nat) : Int) := fun j hj => by rw [hr, cauRow_get _ _ _ hj]; simp
      rw [← hr] at hpg
      have hkl : k < (gTo P (List.replicate l 0) k).length := by rw [gTo_length _ _ _ (by rw [PL.out]; exact hk), PL.out]; exact hlt
      have M := hide hM
      have C := hide hC
      have PK := hide hpg
      have RL := hide hrl
      have RG := hide hrg
      have KL := hide hkl
      clear hM hC hxx hex hpg hr hrl hrg hkl
      go_wp2
      go_loopw [42] (fun vi wr2 => ∃ (j : Nat), j ≤ ys.length ∧ vi = .int .i64 j ∧ MatV wr2 w2.heap.size w3.heap.size (.slice (some ⟨g, 0, none⟩) xs.length cap) vs ((gTo P (List.replicate l 0) k).set k (cpTo r j)) ∧ Chg w2.heap.size w3.heap.size w3 wr2) (fun vi _ => ys.length - (intOf vi).toNat)
      case atStart =>
        refine ⟨0, Nat.zero_le _, rfl, ?_, C.out⟩
        have e := gTo_get P (List.replicate l 0) k (by rw [PL.out]; exact hlt)
        have e2 := set_same _ k [] KL.out
        rw [e] at e2
        rw [cpTo_zero, RL.out, e2]
        exact M.out
      case round =>
        obtain ⟨j, hj, rfl, hM2, hC2⟩ := hrel
        by_cases hltj : j < ys.length
        · have hltj' : (j : Int) < (ys.length : Int) := by omega
          have BW2 := hide (B3.out.trans (hC2.below hs23 B3.out.size))
          obtain ⟨yb, yoff, yu, rfl, hyc, hyu⟩ := (RY.out.below BW2.out).row j hltj
          obtain ⟨y, hyy⟩ : ∃ y, y = ys.getD j 0 := ⟨_, rfl⟩
          rw [← hyy] at hyu
          subst hyu
          have hey := Gf.elOk_tests (Gf.all_of_getD.1 EY.out j hltj)
          rw [← hyy] at hey
          have hg := RG.out j hltj
          rw [← hyy] at hg
          obtain ⟨Y, rfl⟩ := Int.eq_ofNat_of_zero_le hey.1
          have hY : Y < 256 := by omega
          simp only [Int.toNat_natCast] at hg
          have hxor : bits .xor .i64 ((A : Nat) : Int) ((Y : Nat) : Int) = ((A ^^^ Y : Nat) : Int) := Gf.i64_xor _ _ (by omega) (by omega)
          have hxl : A ^^^ Y < 256 := Nat.xor_lt_two_pow (n := 8) hA hY
          obtain ⟨z, hz⟩ : ∃ z, z = Gf.inv (A ^^^ Y) := ⟨_, rfl⟩
          rw [← hz] at hg
          have CI : Hid (∀ w', Gf.Tab w' → Calls Tryd.prog 86 #[.int .i64 (bits .xor .i64 ((A : Nat) : Int) ((Y : Nat) : Int))] w' fun e w'' => e = .returned (.int .i64 ((z : Nat) : Int)) ∧ w' = w'') := by
            intro w' hT'
            rw [hxor]
            refine (Gf.inv_calls _ w' hT' (by omega) (by omega)).mono ?_
            rintro e w'' ⟨rfl, rfl⟩
            refine ⟨?_, rfl⟩
            rw [Int.toNat_natCast, hz]
          have hkl2 : k < ((gTo P (List.replicate l 0) k).set k (cpTo r j)).length := by rw [List.length_set]; exact KL.out
          have hcu := hM2.cell k hkl2
          have hro := hM2.row k hkl2
          rw [getD_set _ _ _ _ _ KL.out, if_pos rfl] at hro
          obtain ⟨u, huu⟩ : ∃ u, u = vs.getD k nilRow := ⟨_, rfl⟩
          rw [← huu] at hcu hro
          have hcl : (cpTo r j).length = l := by rw [cpTo_length r j (by rw [RL.out, HL.out]; exact hj), RL.out]
          obtain ⟨g', cap', hue, hq1, hq2, hq3, hq4⟩ := hro.open1 (by rw [hcl, HL.out]; omega)
          rw [hcl, HL.out] at hue
          rw [hue] at hcu hro huu
          obtain ⟨hf, hcell⟩ := hro.at j (by rw [hcl, HL.out]; exact hltj)
          obtain ⟨old, hold⟩ : ∃ o, o = (cpTo r j).getD j 0 := ⟨_, rfl⟩
          rw [← hold] at hcell
          have W := hide (hro.put j ((z : Nat) : Int))
          have hst : (cpTo r j).set j ((z : Nat) : Int) = cpTo r (j + 1) := by rw [← hg]; exact cpTo_step r j (by rw [RL.out, HL.out]; exact hltj)
          have ST := hide hst
          have UU := hide huu
          have M2 := hide hM2
          have C2 := hide hC2
          have TT := hide (Gf.Tab.below T.out BW2.out)
          have KL2 := hide hkl2
          have i0 : (0 : Int) ≤ (k : Int) := by omega
          have i1 : (0 : Int) ≤ (j : Int) := by omega
          clear hM2 hC2 hyy hey hg hxor hxl hz hkl2 hro huu hue hcl hold hst
          go_wp2
          go_region_with (go_at_call 86; refine (CI.out _ (by exact TT.out)).mono ?_; rintro e w' ⟨rfl, rfl⟩)
          all_goals
            go_wp2
            go_roundw
            case rel =>
              have hw := W.out
              have hgg : wr.grownBy (wr.drew.setCell ⟨g', j, none⟩ (.int .i64 ((z : Nat) : Int))) (vs.getD k nilRow).ownBlock := by
                rw [← UU.out]
                exact ⟨hw.2.os, hw.2.tape, hw.2.output, hw.2.size, hw.2.block⟩
              have ho : Own (wr.drew.setCell ⟨g', j, none⟩ (.int .i64 ((z : Nat) : Int))) w2.heap.size (vs.getD k nilRow) (cpTo r (j + 1)) := by
                rw [← UU.out, ← ST.out]
                exact hw.1.drew
              refine ⟨j + 1, by omega, by go_num, ?_, C2.out.trans (M2.out.writeChg k KL2.out hgg)⟩
              have := M2.out.write k KL2.out _ ho hgg
              rw [List.set_set] at this
              exact this
            case measure => simp [intOf]; omega
        · obtain rfl : j = ys.length := by omega
          have M2 := hide hM2
          have C2 := hide hC2
          clear hM2 hC2
          go_wp2
          go_roundw
          case rel =>
            refine ⟨k + 1, by omega, by go_num, ?_, C2.out⟩
            have := M2.out
            have e := cpTo_end r
            rw [RL.out, HL.out] at e
            rw [e, ← PK.out, gTo_step _ _ k (by rw [PL.out]; exact hlt)] at this
            exact this
          case measure => simp [intOf]; omega
    · obtain rfl : k = xs.length := by omega
      have M := hide hM
      have C := hide hC
      clear hM hC
      go_wp2
      go_ret2
      have hm := M.out
      have e := gTo_end P (List.replicate l 0)
      rw [PL.out] at e
      rw [e] at hm
      exact ⟨_, rfl, ⟨_, hm.wider hs23 C.out.size⟩, B3.out.trans (C.out.below hs23 B3.out.size)⟩

set_option maxRecDepth 100000 in
set_option maxHeartbeats 1600000 in
theorem cauchy_calls (xv yv : Value) (xs ys : List Int) (w : World) (hT : Gf.Tab w) (hx : Rd w xv xs) (hy : Rd w yv ys) :
    Calls Tryd.prog 145 #[xv, yv] w fun e w' => ∃ v', e = .returned (.tuple #[v', .bool (cauR xs ys).2]) ∧ Mat w' w.heap.size w'.heap.size v' (cauR xs ys).1 ∧ Below w.heap.size w w' := by
  by_cases hok : cauOk xs ys = true
  · have e : cauR xs ys = (cauM xs ys, true) := by simp [cauR, hok]
    rw [e]
    exact cauchy_good xv yv xs ys w hT hx hy hok
  · have e : cauR xs ys = ([], false) := by simp only [cauR, if_neg hok]
    rw [e]
    clear e hT
    have RX := hide hx
    have RY := hide hy
    obtain ⟨xa, xcap, rfl, _⟩ := hx
    obtain ⟨ya, ycap, rfl, _⟩ := hy
    cases h1 : decide (1 ≤ (xs.length : Int) ∧ (xs.length : Int) ≤ 8) with
    | false =>
      have H1 := hide h1
      clear h1
      go_enter Tryd.func145, Tryd.ntmps145
      go_wp2_with fail
      refine (isSide_calls _ _).mono ?_
      rw [H1.out]
      rintro e w' ⟨rfl, rfl⟩
      go_wp2
      go_ret2
      exact ⟨_, rfl, Mat.nil _ _ _, Below.refl _ _⟩
    | true =>
      have H1 := hide h1
      cases h2 : decide (1 ≤ (ys.length : Int) ∧ (ys.length : Int) ≤ 8) with
      | false =>
        have H2 := hide h2
        clear h1 h2
        go_enter Tryd.func145, Tryd.ntmps145
        go_wp2_with fail
        refine (isSide_calls _ _).mono ?_
        rw [H1.out]
        rintro e w' ⟨rfl, rfl⟩
        go_wp2_with fail
        refine (isSide_calls _ _).mono ?_
        rw [H2.out]
        rintro e w' ⟨rfl, rfl⟩
        go_wp2
        go_ret2
        exact ⟨_, rfl, Mat.nil _ _ _, Below.refl _ _⟩
      | true =>
        have H2 := hide h2
        have hu : unl ([xs, ys] : List (List Int)).flatten = false := by
          cases hq : unl ([xs, ys] : List (List Int)).flatten with
          | false => rfl
          | true =>
            refine absurd ?_ hok
            rw [cauOk, h1, h2]
            simpa using hq
        have U := hide hu
        have hx8 := of_decide_eq_true h1
        have hy8 := of_decide_eq_true h2
        clear h1 h2 hu hok
        go_enter Tryd.func145, Tryd.ntmps145
        go_wp2_with fail
        refine (isSide_calls _ _).mono ?_
        rw [H1.out]
        rintro e w' ⟨rfl, rfl⟩
        go_wp2_with fail
        refine (isSide_calls _ _).mono ?_
        rw [H2.out]
        rintro e w' ⟨rfl, rfl⟩
        go_wp2_with fail
        refine (areUnlike_calls _ [xs, ys] _ (rdM_pair RX.out RY.out) (by simp) (fun i hi => by simp at hi; match i, hi with | 0, _ => (show xs.length ≤ _; omega) | 1, _ => (show ys.length ≤ _; omega))).mono ?_
        rw [U.out]
        rintro e w2 ⟨rfl, hb2⟩
        have h0 : Below w.heap.size w (w.alloc (.cells #[.slice xa xs.length xcap, .slice ya ys.length ycap] 22)) := (Below.refl _ _).alloc (Nat.le_refl _) _
        have B2 := hide (h0.trans (hb2.mono h0.size))
        clear hb2 h0
        go_wp2
        go_ret2
        exact ⟨_, rfl, Mat.nil _ _ _, B2.out⟩

end Go.Proofs.YtogopakmebiomaaDoor

namespace Go.Proofs.YtogopakmebiomaaDoor
open Go.RowKit
open Gf (ci nat ciM Sh AllLt dotTo solN identN colN colL invTo joinN clr opM hOf fOf piv)

namespace Gf
theorem dot_app {r s z y : List Nat} {n : Nat} (hr : r.length = n) (hz : z.length = n) : ∀ m, dotTo (r ++ s) (z ++ y) (n + m) = dotTo r z n ^^^ dotTo s y m := by
  have low : ∀ k, k ≤ n → dotTo (r ++ s) (z ++ y) k = dotTo r z k := by
    intro k
    induction k with
    | zero => intro _; rfl
    | succ k ih => intro h; rw [dotTo, dotTo, ih (by omega), getD_app_left _ _ _ (by omega), getD_app_left _ _ _ (by omega)]
  intro m
  induction m with
  | zero => rw [Nat.add_zero, low n (Nat.le_refl _)]; simp [dotTo]
  | succ m ih =>
    have e1 : (r ++ s).getD (n + m) 0 = s.getD m 0 := by rw [List.getD_eq_getElem?_getD, List.getElem?_append_right (by omega), hr, Nat.add_sub_cancel_left, ← List.getD_eq_getElem?_getD]
    have e2 : (z ++ y).getD (n + m) 0 = y.getD m 0 := by rw [List.getD_eq_getElem?_getD, List.getElem?_append_right (by omega), hz, Nat.add_sub_cancel_left, ← List.getD_eq_getElem?_getD]
    rw [← Nat.add_assoc, dotTo, ih, dotTo, e1, e2, Nat.xor_assoc]
/-- What the reduced pair, joined, takes to noughts the pair does. -/
theorem pair_kern {A S : List (List Nat)} {n c d : Nat} {z : List Nat} (ha : Sh A n c) (hs : Sh S n d) (hz : AllLt z) : ∀ k, k ≤ n → ∀ q, invTo A S k = some q → (∀ i, i < n → dotTo ((joinN q.1 q.2).getD i []) z (c + d) = 0) → ∀ i, i < n → dotTo ((joinN A S).getD i []) z (c + d) = 0 := by
  intro k
  induction k with
  | zero => intro _ q h hh; simp only [invTo, Option.some.injEq] at h; subst h; exact hh
  | succ k ih =>
    intro hk q h hh
    rw [invTo] at h
    cases e : invTo A S k with
    | none => rw [e] at h; simp at h
    | some r =>
      obtain ⟨h1, h2⟩ := invTo_sh ha hs k (by omega) r e
      rw [e] at h
      simp only [] at h
      cases e2 : piv r.1 k k with
      | none => rw [e2] at h; simp at h
      | some p =>
        rw [e2] at h
        simp only [Option.some.injEq] at h
        subst h
        obtain ⟨_, p2, p3⟩ := piv_facts e2
        rw [h1.len] at p2
        have hj := h1.join h2
        refine ih (by omega) r e (op_kern (at_ := k) (p := p) (x := hOf r.1 k p) (fs := fOf r.1 k k p) hj (by omega) p2 (h1.elt p k) p3 (fun i => (h1.swap k p (by omega) p2).elt i k) hz ?_)
        rw [op_join h1 h2 (by omega) p2]
        exact hh
theorem dot_identRow {r z : List Nat} {n i : Nat} (hz : AllLt z) (hU : ∀ j, j < n → r.getD j 0 = if i = j then 1 else 0) : ∀ k, k ≤ n → dotTo r z k = if i < k then z.getD i 0 else 0 := by
  intro k
  induction k with
  | zero => intro _; simp [dotTo]
  | succ k ih =>
    intro h
    rw [dotTo, ih (by omega), hU k (by omega)]
    by_cases e : i = k
    · subst e; rw [if_pos rfl, one_mul _ (hz i), if_neg (by omega), if_pos (by omega), Nat.zero_xor]
    · rw [if_neg e, zero_mul (hz k), Nat.xor_zero]
      by_cases h2 : i < k
      · rw [if_pos h2, if_pos (by omega)]
      · rw [if_neg h2, if_neg (by omega)]
/-- The answer by rows solves: each row times it is what was asked there. -/
theorem solve_right {A : List (List Nat)} {V : List Nat} {n : Nat} (ha : Sh A n n) (hV : AllLt V) (hl : V.length = n) (hok : (solN A (colN V)).2 = true) :
    ∀ i, i < n → dotTo (A.getD i []) ((solN A (colN V)).1.map fun r => r.getD 0 0) n = V.getD i 0 := by
  have hc : Sh (colN V) n 1 := sh_col hl hV
  cases e : invTo A (colN V) n with
  | none => unfold solN at hok; rw [ha.len, e] at hok; cases hok
  | some q =>
    obtain ⟨h1, h2⟩ := invTo_sh ha hc n (Nat.le_refl _) q e
    have hs : solN A (colN V) = (q.2, true) := by unfold solN; rw [ha.len, e]
    rw [hs]
    simp only []
    obtain ⟨s, hsd⟩ : ∃ s, s = q.2.map fun r => r.getD 0 0 := ⟨_, rfl⟩
    rw [← hsd]
    have sl : s.length = n := by rw [hsd, List.length_map, h2.len]
    have sg : ∀ i, i < n → s.getD i 0 = (q.2.getD i []).getD 0 0 := fun i hi => by rw [hsd, map_get _ _ _ _ (by rw [h2.len]; exact hi)]
    have slt : AllLt s := by
      intro j
      by_cases hj : j < n
      · rw [sg j hj]; exact h2.elt j 0
      · rw [List.getD_eq_getElem?_getD, List.getElem?_eq_none (by omega)]; decide
    have zlt : AllLt (s ++ [1]) := allLt_app slt (by intro j; cases j <;> simp)
    have U := inv_unit ha hc (Nat.le_refl _) n (Nat.le_refl _) q e
    have hq : ∀ i, i < n → dotTo ((joinN q.1 q.2).getD i []) (s ++ [1]) (n + 1) = 0 := by
      intro i hi
      rw [joinN_get _ _ _ (by rw [h1.len]; exact hi), dot_app (h1.row i hi) sl 1, dot_identRow slt (fun j hj => U i j hi hj) n (Nat.le_refl _), if_pos hi, dotTo, dotTo, Nat.zero_xor]
      have e1 : ([1] : List Nat).getD 0 0 = 1 := rfl
      rw [e1, mul_one _ (h2.elt i 0), sg i hi, Nat.xor_self]
    intro i hi
    have := pair_kern ha hc zlt n (Nat.le_refl _) q e hq i hi
    rw [joinN_get _ _ _ (by rw [ha.len]; exact hi), dot_app (ha.row i hi) sl 1, dotTo, dotTo, Nat.zero_xor] at this
    have e1 : ([1] : List Nat).getD 0 0 = 1 := rfl
    have e2 : ((colN V).getD i []).getD 0 0 = V.getD i 0 := by simp [colN, List.getD_eq_getElem?_getD, hl, hi]
    rw [e1, e2, mul_one _ (hV i)] at this
    exact xor_zero_eq this
end Gf
/-- Of Cauchy's matrix of unlike elements, as many rows as columns, there is an inverse. -/
theorem cau_inv {xs ys : List Int} {n : Nat} (hx : xs.length = n) (hy : ys.length = n) (hn : 1 ≤ n) (hn8 : n ≤ 8) (hu : unl (xs ++ ys) = true) : (invR (cauM xs ys)).2 = true := by
  obtain ⟨ex, ey⟩ := unl_parts hu
  have hrow : ∀ i, i < n → (cauM xs ys).getD i [] = cauRow (xs.getD i 0) ys := fun i hi => cauM_get _ _ _ (by rw [hx]; exact hi)
  have hel : ∀ i, i < n → ((cauM xs ys).getD i []).all Gf.elOk = true := fun i hi => by
    rw [hrow i hi]
    refine Gf.all_of_getD.2 fun j hj => ?_
    rw [cauRow_length] at hj
    rw [cauRow_get _ _ _ hj]
    have := Gf.inv_lt ((xs.getD i 0).toNat ^^^ (ys.getD j 0).toNat)
    simp only [Gf.elOk, decide_eq_true_eq]
    omega
  have hlen : (cauM xs ys).length = n := by rw [cauM_length, hx]
  have hr0 : ((cauM xs ys).getD 0 []).length = n := by rw [hrow 0 (by omega), cauRow_length, hy]
  have hg : goodM (cauM xs ys) = true := by
    unfold goodM
    simp only [Bool.and_eq_true]
    refine ⟨?_, ?_, ?_, ?_⟩
    · rw [hlen]; exact decide_eq_true (by omega)
    · rw [hr0]; exact decide_eq_true (by omega)
    · refine all_yes (d := []) fun i hi => ?_
      rw [hlen] at hi
      rw [hr0, hrow i hi, cauRow_length, hy]
      simp
    · refine all_yes (d := []) fun i hi => ?_
      rw [hlen] at hi
      exact hel i hi
  have hsq : sqOk (cauM xs ys) = true := by rw [sqOk, hg, hlen, hr0]; simp
  unfold invR
  rw [if_pos hsq]
  simp only []
  have hsh := sh_sq hsq
  rw [hlen] at hsh ⊢
  have nd : (xs ++ ys).Pairwise (· ≠ ·) := by
    unfold unl at hu
    simp only [Bool.and_eq_true, decide_eq_true_eq] at hu
    exact hu.1
  rw [List.pairwise_append] at nd
  obtain ⟨ndx, ndy, ndxy⟩ := nd
  have pw : ∀ (l : List Int), l.Pairwise (· ≠ ·) → l.all Gf.elOk = true → ∀ i j, i < l.length → j < l.length → i ≠ j → (l.getD i 0).toNat ≠ (l.getD j 0).toNat := by
    intro l hp he i j hi hj hij hh
    have a1 := Gf.elOk_tests (Gf.all_of_getD.1 he i hi)
    have a2 := Gf.elOk_tests (Gf.all_of_getD.1 he j hj)
    have e : l.getD i 0 = l.getD j 0 := by omega
    rw [List.getD_eq_getElem?_getD, List.getD_eq_getElem?_getD, List.getElem?_eq_getElem hi, List.getElem?_eq_getElem hj, Option.getD_some, Option.getD_some] at e
    rw [List.pairwise_iff_getElem] at hp
    rcases Nat.lt_or_gt_of_ne hij with h | h
    · exact hp i j hi hj h e
    · exact hp j i hj hi h e.symm
  have bd : ∀ (l : List Int), l.all Gf.elOk = true → ∀ i, (l.getD i 0).toNat < 256 := by
    intro l he i
    by_cases hi : i < l.length
    · have := Gf.elOk_tests (Gf.all_of_getD.1 he i hi); omega
    · rw [List.getD_eq_getElem?_getD, List.getElem?_eq_none (by omega)]; decide
  refine Gf.solN_ok hsh (Gf.sh_ident n) fun z hzl hz hk j hj => ?_
  refine Gf.cauchy_zero n (fun i => (xs.getD i 0).toNat) (fun j => (ys.getD j 0).toNat) (fun j => z.getD j 0) (bd xs ex) (bd ys ey) hz (fun i j hi hj => pw xs ndx ex i j (by omega) (by omega)) (fun i j hi hj => pw ys ndy ey i j (by omega) (by omega)) ?_ ?_ j hj
  · intro i j hi hj hh
    have a1 := Gf.elOk_tests (Gf.all_of_getD.1 ex i (by omega))
    have a2 := Gf.elOk_tests (Gf.all_of_getD.1 ey j (by omega))
    have e : xs.getD i 0 = ys.getD j 0 := by omega
    have m1 : xs.getD i 0 ∈ xs := by rw [List.getD_eq_getElem?_getD, List.getElem?_eq_getElem (by omega), Option.getD_some]; exact List.getElem_mem _
    have m2 : ys.getD j 0 ∈ ys := by rw [List.getD_eq_getElem?_getD, List.getElem?_eq_getElem (by omega), Option.getD_some]; exact List.getElem_mem _
    exact ndxy _ m1 _ m2 e
  · intro i hi
    have := hk i hi
    rw [Gf.dot_cs (x := (xs.getD i 0).toNat) (y := fun j => (ys.getD j 0).toNat) hz n (fun j hj => by
      rw [natM_get, hrow i hi]
      have h1 := Gf.ci_getD (nat (cauRow (xs.getD i 0) ys)) j
      rw [Gf.ci_nat (by have := hel i hi; rwa [hrow i hi] at this), cauRow_get _ _ _ (by omega)] at h1
      omega)] at this
    exact this
end Go.Proofs.YtogopakmebiomaaDoor

namespace Go.Proofs.YtogopakmebiomaaDoor
open Go.RowKit
open Gf (ci nat ciM colN colL solN identN dotTo AllLt Sh)

theorem unl_sub {l l' : List Int} (h : l'.Sublist l) (hu : unl l = true) : unl l' = true := by
  unfold unl at hu ⊢
  simp only [Bool.and_eq_true, decide_eq_true_eq, List.all_eq_true] at hu ⊢
  exact ⟨hu.1.sublist h, fun x hx => hu.2 x (h.subset hx)⟩

theorem cau_part {xs ys : List Int} {p n : Nat} (h : cauOk xs ys = true) (hn : 1 ≤ n) (hy : n ≤ ys.length) (hx : p + n ≤ xs.length) :
    cauOk ((xs.drop p).take n) (ys.drop (ys.length - n)) = true ∧ (invR (cauM ((xs.drop p).take n) (ys.drop (ys.length - n)))).2 = true := by
  obtain ⟨⟨h1, h2⟩, ⟨h3, h4⟩, hu⟩ := cauOk_facts h
  have lx : ((xs.drop p).take n).length = n := by simp; omega
  have ly : (ys.drop (ys.length - n)).length = n := by simp; omega
  have hu' : unl ((xs.drop p).take n ++ ys.drop (ys.length - n)) = true :=
    unl_sub (List.Sublist.append ((List.take_sublist _ _).trans (List.drop_sublist _ _)) (List.drop_sublist _ _)) hu
  refine ⟨?_, cau_inv lx ly hn (by omega) hu'⟩
  simp only [cauOk, Bool.and_eq_true, decide_eq_true_eq]
  exact ⟨by omega, by omega, hu'⟩

theorem el_at {xs : List Int} (h : xs.all Gf.elOk = true) (i : Nat) : 0 ≤ xs.getD i 0 ∧ xs.getD i 0 ≤ 255 := by
  by_cases hi : i < xs.length
  · exact Gf.elOk_iff.1 (Gf.all_of_getD.1 h i hi)
  · rw [List.getD_eq_getElem?_getD, List.getElem?_eq_none (by omega)]; simp

theorem cau_one {xs ys : List Int} (h : cauOk xs ys = true) {i k : Nat} (hi : i < xs.length) (hk : k < ys.length) :
    ∃ a x y : Nat, a < 256 ∧ x < 256 ∧ y < 256 ∧ ((cauM xs ys).getD i []).getD k 0 = (a : Int) ∧ xs.getD i 0 = (x : Int) ∧ ys.getD k 0 = (y : Int) ∧ bits .xor .i64 (x : Int) (y : Int) = ((x ^^^ y : Nat) : Int) ∧ x ^^^ y < 256 ∧ Gf.mul a (x ^^^ y) = 1 := by
  obtain ⟨_, _, hu⟩ := cauOk_facts h
  obtain ⟨ex, ey⟩ := unl_parts hu
  have bx := el_at ex i
  have bY := el_at ey k
  have nd : (xs ++ ys).Pairwise (· ≠ ·) := by
    unfold unl at hu
    simp only [Bool.and_eq_true, decide_eq_true_eq] at hu
    exact hu.1
  have hne : xs.getD i 0 ≠ ys.getD k 0 := by
    have := (List.pairwise_append.1 nd).2.2 xs[i] (List.getElem_mem hi) ys[k] (List.getElem_mem hk)
    simpa [List.getD_eq_getElem?_getD, hi, hk] using this
  obtain ⟨x, hx⟩ : ∃ x, x = (xs.getD i 0).toNat := ⟨_, rfl⟩
  obtain ⟨y, hy⟩ : ∃ y, y = (ys.getD k 0).toNat := ⟨_, rfl⟩
  have x256 : x < 256 := by omega
  have y256 : y < 256 := by omega
  have n0 : x ^^^ y ≠ 0 := fun e => hne (by have := Gf.xor_zero_eq e; omega)
  have xl := Gf.xor_lt x256 y256
  refine ⟨Gf.inv (x ^^^ y), x, y, Gf.inv_lt _, x256, y256, ?_, by omega, by omega, Gf.xor_o x256 y256, xl, ?_⟩
  · rw [cauM_get _ _ _ hi, cauRow_get _ _ _ hk, hx, hy]
  · rw [Gf.mul_comm _ _ (Gf.inv_lt _) xl]
    exact Gf.mul_inv _ xl n0

theorem nat_ci (l : List Nat) : nat (ci l) = l := by
  unfold Gf.nat Gf.ci
  rw [List.map_map]
  conv => rhs; rw [← List.map_id l]
  apply List.map_congr_left
  intro a _
  simp

theorem slv_facts {m : List (List Int)} {v : List Int} (h : (slvR m v).2 = true) :
    ∃ S : List Nat, (slvR m v).1 = ci S ∧ S.length = m.length ∧ v.length = m.length ∧ m.length ≤ 8 ∧ AllLt S ∧ v.all Gf.elOk = true ∧
      (∀ i, i < m.length → (m.getD i []).length = m.length ∧ (m.getD i []).all Gf.elOk = true) ∧ ∀ i, i < m.length → dotTo (nat (m.getD i [])) S m.length = (v.getD i 0).toNat := by
  unfold slvR at h ⊢
  by_cases hok : slvOk m v = true
  · rw [if_pos hok] at h ⊢
    simp only [] at h ⊢
    simp only [slvOk, Bool.and_eq_true, decide_eq_true_eq] at hok
    obtain ⟨hsq, hvl, hve⟩ := hok
    obtain ⟨hg, hs0⟩ := sqOk_facts hsq
    obtain ⟨g1, g2, g3, g4, g5⟩ := goodM_rows hg
    have ha := sh_sq hsq
    have hI := Gf.sh_ident m.length
    have hV : AllLt (nat v) := by
      intro j
      have := el_at hve j
      have e : (nat v).getD j 0 = (v.getD j 0).toNat := by
        unfold Gf.nat
        by_cases hj : j < v.length
        · simp [List.getD_eq_getElem?_getD, hj]
        · simp [List.getD_eq_getElem?_getD, hj]
      rw [e]
      omega
    have hVl : (nat v).length = m.length := by unfold Gf.nat; rw [List.length_map]; exact hvl
    cases e : Gf.invTo (m.map nat) (identN m.length) m.length with
    | none => unfold Gf.solN at h; rw [ha.len, e] at h; cases h
    | some q =>
      obtain ⟨h1, h2⟩ := Gf.invTo_sh ha hI m.length (Nat.le_refl _) q e
      have hs : solN (m.map nat) (identN m.length) = (q.2, true) := by unfold Gf.solN; rw [ha.len, e]
      have hc : solN (m.map nat) (colN (nat v)) = (q.2.map (colL (nat v) m.length), true) := by
        rw [Gf.col_ident hV hVl, Gf.solN_map (Gf.lin_col hV) ha hI, hs]
      have hr := Gf.solve_right ha hV hVl (by rw [hc])
      rw [hc] at hr
      simp only [] at hr
      have em : (q.2.map (colL (nat v) m.length)).map (fun r => r.getD 0 0) = mulC q.2 (nat v) := by
        unfold mulC
        rw [List.map_map, hVl]
        rfl
      rw [em] at hr
      rw [hs]
      simp only []
      refine ⟨_, rfl, by unfold mulC; rw [List.length_map, h2.len], hvl, g2, ?_, hve, fun i hi => ⟨by rw [(g5 i hi).1, ← hs0], (g5 i hi).2⟩, fun i hi => ?_⟩
      · intro j
        unfold mulC
        by_cases hj : j < q.2.length
        · have : (q.2.map fun r => dotTo r (nat v) (nat v).length).getD j 0 = dotTo (q.2.getD j []) (nat v) (nat v).length := by simp [List.getD_eq_getElem?_getD, hj]
          rw [this]
          exact Gf.dotTo_lt (fun k => h2.elt j k) _
        · rw [List.getD_eq_getElem?_getD, List.getElem?_eq_none (by simp; omega)]; decide
      · have := hr i hi
        have e1 : (m.map nat).getD i [] = nat (m.getD i []) := by simp [List.getD_eq_getElem?_getD, hi]
        have e2 : (nat v).getD i 0 = (v.getD i 0).toNat := by unfold Gf.nat; simp [List.getD_eq_getElem?_getD, hvl, hi]
        rw [e1, e2] at this
        exact this
  · rw [if_neg hok] at h
    cases h
end Go.Proofs.YtogopakmebiomaaDoor
