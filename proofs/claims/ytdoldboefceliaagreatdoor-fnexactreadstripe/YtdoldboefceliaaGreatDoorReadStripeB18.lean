/-
  Unlike elements and Cauchy's rows: the program's functions and its model's, call by call. The program's table of rests must hold its seven numbers where the program's own function is called. Cauchy's matrix: the program's function and its model's, at all lists. The program's table of rests must hold its seven numbers where the program's own function is called. CauchyMatrix: the program's function and its model's, at all lists. The program's table of rests must hold its seven numbers where the program's own function is called. How many data and parity pieces there may be: the program's function and its model's, call by call. No condition.
-/
import Derived.Test.YtdoldboefceliaaGreatDoorReadStripeB16
import Derived.Test.YtdoldboefceliaaGreatDoorReadStripeB17
import Derived.Deep.WholeRow
import Derived.Test.YtdoldboefceliaaGreatDoorReadStripeB15
namespace Go.Proofs.YtdoldboefceliaaGreatDoor
open Go.RowKit

theorem contains_at {xs : List Int} {x : Int} {k : Nat} (hk : k < xs.length) (h : xs.getD k 0 = x) : xs.contains x = true := by
  rw [List.contains_eq_mem, decide_eq_true_eq, ← h, List.getD_eq_getElem?_getD, List.getElem?_eq_getElem hk, Option.getD_some]
  exact List.getElem_mem hk
theorem contains_no {xs : List Int} {x : Int} (h : ∀ i, i < xs.length → xs.getD i 0 ≠ x) : xs.contains x = false := by
  rw [List.contains_eq_mem, decide_eq_false_iff_not]
  intro hm
  obtain ⟨i, hi, rfl⟩ := List.mem_iff_getElem.1 hm
  refine h i hi ?_
  rw [List.getD_eq_getElem?_getD, List.getElem?_eq_getElem hi, Option.getD_some]

set_option maxRecDepth 100000 in
set_option maxHeartbeats 800000 in
theorem l1HasM_calls (v : Value) (xs : List Int) (x : Int) (w : World) (h : Rd w v xs) :
    Calls Tryz.prog 142 #[v, .int .i64 x] w fun e w' => e = .returned (.bool (xs.contains x)) ∧ w = w' := by
  have R := hide h
  obtain ⟨a, cap, rfl, q1, q2, q3⟩ := h
  have hm : xs.length ≤ maxLen := by omega
  unfold maxLen at hm
  clear q1 q2 q3
  obtain ⟨r, hr⟩ : ∃ r, r = xs.contains x := ⟨_, rfl⟩
  rw [← hr]
  have HR := hide hr
  clear hr
  go_enter Tryz.func142, Tryz.ntmps142
  go_wp2
  go_loop [9] (fun vi => ∃ (k : Nat), k ≤ xs.length ∧ vi = .int .i64 k ∧ ∀ i, i < k → xs.getD i 0 ≠ x) (fun vi => xs.length - (intOf vi).toNat)
  case atStart => exact ⟨0, Nat.zero_le _, rfl, fun i hi => by omega⟩
  case round =>
    obtain ⟨k, hk, rfl, hall⟩ := hrel
    have A := hide hall
    clear hall
    by_cases hlt : k < xs.length
    · have hlt' : (k : Int) < (xs.length : Int) := by omega
      obtain ⟨b, off, u, rfl, hc, hu⟩ := R.out.row k hlt
      obtain ⟨y, hy⟩ : ∃ y, y = xs.getD k 0 := ⟨_, rfl⟩
      rw [← hy] at hu
      subst hu
      have Y := hide hy
      clear hy
      by_cases e : y = x
      · have e1 : (y == x) = true := by simp [e]
        have E := hide e
        clear e
        go_wp2
        go_ret
        exact ⟨Gf.ret_bool (by rw [HR.out, contains_at hlt (by rw [← Y.out, E.out])]), rfl⟩
      · have e1 : (y == x) = false := by simp [e]
        have E := hide e
        clear e
        go_wp2
        go_round
        case rel =>
          refine ⟨k + 1, by omega, by go_num, fun i hi => ?_⟩
          by_cases ee : i = k
          · subst ee; rw [← Y.out]; exact E.out
          · exact A.out i (by omega)
        case measure => simp [intOf]; omega
    · obtain rfl : k = xs.length := by omega
      go_wp2
      go_ret
      exact ⟨Gf.ret_bool (by rw [HR.out, contains_no A.out]), rfl⟩
theorem rd_take {w : World} {a : Option Addr} {n cap : Nat} {xs : List Int} (h : Rd w (.slice a n cap) xs) (i : Nat) (hi : i ≤ xs.length) : Rd w (.slice a i cap) (xs.take i) := by
  obtain ⟨a', cap', hv, h1, h2, h3⟩ := h
  simp only [Value.slice.injEq] at hv
  obtain ⟨rfl, rfl, rfl⟩ := hv
  have hl : (xs.take i).length = i := by simp; omega
  refine ⟨a, cap, by rw [hl], by rw [hl]; omega, h2, ?_⟩
  rcases h3 with h3 | ⟨b, off, rfl, hlt, hc⟩
  · subst h3; exact .inl (by simp)
  · refine .inr ⟨b, off, rfl, hlt, fun j hj => ?_⟩
    rw [hl] at hj
    rw [hc j (by omega)]
    simp [List.getD_eq_getElem?_getD, hj]

theorem seenZero : Tryz.zeroCells229 = (List.replicate 256 (Value.bool false)).toArray := by kernel_rfl
theorem seenInfo : (Tryz.prog.info? 229).map (·.size) = some Tryz.zeroCells229.size := by kernel_rfl
theorem seenOne : Tryz.zeroCells229.all (·.oneCell') = true := by kernel_rfl
theorem seen_new (w : World) : (w.alloc (.cells Tryz.zeroCells229 229)).ownsRow w.heap.size 229 1 (.slice (some ⟨w.heap.size, 0, none⟩) 256 256) 256 (seenL []) := by
  have := of_block_V (w := w.alloc (.cells Tryz.zeroCells229 229)) (base := w.heap.size) (g := w.heap.size) (e := 229) (zs := List.replicate 256 (Value.bool false)) (by rw [← seenZero]; exact heap_alloc_last w _) (Nat.le_refl _) (by rw [List.length_replicate]; unfold maxLen; omega)
  rw [seenL_nil]
  rw [List.length_replicate] at this
  exact this
theorem flat_take (ls : List (List Int)) (i : Nat) (h : i < ls.length) : (ls.take (i + 1)).flatten = (ls.take i).flatten ++ ls.getD i [] := by
  rw [take_snocM ls [] i h, List.flatten_append]
  simp
theorem flat_no {ls : List (List Int)} {i k : Nat} (hi : i < ls.length) (h : unl ((ls.take i).flatten ++ (ls.getD i []).take k) = false) : unl ls.flatten = false := by
  have e : ls.flatten = ((ls.take i).flatten ++ (ls.getD i []).take k) ++ ((ls.getD i []).drop k ++ (ls.drop (i + 1)).flatten) := by
    conv => lhs; rw [← List.take_append_drop (i + 1) ls, List.flatten_append, flat_take ls i hi]
    rw [List.append_assoc, List.append_assoc, ← List.append_assoc ((ls.getD i []).take k), List.take_append_drop]
  rw [e]
  exact unl_app h _

set_option maxRecDepth 100000 in
set_option maxHeartbeats 1600000 in
theorem areUnlike_calls (v : Value) (ls : List (List Int)) (w : World) (h : RdM w v ls) (hn : ls.length ≤ 1048576) (hl : ∀ i, i < ls.length → (ls.getD i []).length ≤ 1048576) :
    Calls Tryz.prog 222 #[v] w fun e w' => e = .returned (.bool (unl ls.flatten)) ∧ Below w.heap.size w w' := by
  have R := hide h
  have HL := hide hl
  obtain ⟨a, cap, rfl, _⟩ := h
  clear hl
  obtain ⟨res, hres⟩ : ∃ r, r = unl ls.flatten := ⟨_, rfl⟩
  rw [← hres]
  have RES := hide hres
  clear hres
  have hsc := run_storeCells_new (P := Tryz.prog) w 229 Tryz.zeroCells229 Tryz.zeroCells229 seenInfo rfl seenOne
  have HSC := hide hsc
  clear hsc
  go_enter Tryz.func222, Tryz.ntmps222
  go_wp2
  rw [HSC.out]
  simp only [Result.andThen]
  rw [Oper.upon_skip]
  have O0 := hide (seen_new w)
  have B0 := hide ((Below.refl w.heap.size w).alloc (Nat.le_refl _) (.cells Tryz.zeroCells229 229))
  obtain ⟨w0, hw0⟩ : ∃ w0, w0 = w.alloc (.cells Tryz.zeroCells229 229) := ⟨_, rfl⟩
  rw [← hw0] at O0 B0 ⊢
  clear hw0 HSC
  go_wp2
  go_loopw [11] (fun vi wr => ∃ (i : Nat), i ≤ ls.length ∧ vi = .int .i64 i ∧ unl (ls.take i).flatten = true ∧ wr.ownsRow w.heap.size 229 1 (.slice (some ⟨w.heap.size, 0, none⟩) 256 256) 256 (seenL (ls.take i).flatten) ∧ Below w.heap.size w wr) (fun vi _ => ls.length - (intOf vi).toNat)
  case atStart => exact ⟨0, Nat.zero_le _, rfl, unl_nil, O0.out, B0.out⟩
  case round =>
    obtain ⟨i, hi, rfl, hu, ho, hb⟩ := hrel
    have U := hide hu
    have O := hide ho
    have B := hide hb
    clear hu ho hb
    by_cases hlt : i < ls.length
    · have hlt' : (i : Int) < (ls.length : Int) := by omega
      obtain ⟨b, off, uv, rfl, hbl, hc, hrd⟩ := R.out.rowAt i hlt
      have hc1 : wr.cell? ⟨b, off + i, none⟩ = some uv := (B.out.cell (p := ⟨b, off + i, none⟩) hbl).trans hc
      obtain ⟨r, hr⟩ : ∃ r, r = ls.getD i [] := ⟨_, rfl⟩
      have hrl := HL.out i hlt
      have hft := flat_take ls i hlt
      rw [← hr] at hrd hrl hft
      obtain ⟨pre, hpre⟩ : ∃ p, p = (ls.take i).flatten := ⟨_, rfl⟩
      have hno : ∀ k, unl (pre ++ r.take k) = false → res = false := fun k hk => by
        rw [RES.out]
        exact flat_no hlt (k := k) (by rw [← hr, ← hpre]; exact hk)
      rw [← hpre] at hft
      have hu1 := U.out
      have ho1 := O.out
      rw [← hpre] at hu1 ho1
      have RD := hide hrd
      have NO := hide hno
      have FT := hide hft
      have U1 := hide hu1
      have O1 := hide ho1
      obtain ⟨ua, uc, rfl, _⟩ := hrd
      clear hc hr hft hpre hno hu1 ho1 U O
      go_wp2
      go_loopw [17] (fun vi wr2 => ∃ (k : Nat), k ≤ r.length ∧ vi = .int .i64 k ∧ unl (pre ++ r.take k) = true ∧ wr2.ownsRow w.heap.size 229 1 (.slice (some ⟨w.heap.size, 0, none⟩) 256 256) 256 (seenL (pre ++ r.take k)) ∧ Below w.heap.size w wr2) (fun vi _ => r.length - (intOf vi).toNat)
      case atStart =>
        refine ⟨0, Nat.zero_le _, rfl, ?_, ?_, B.out⟩
        · rw [List.take_zero, List.append_nil]; exact U1.out
        · rw [List.take_zero, List.append_nil]; exact O1.out
      case round =>
        obtain ⟨k, hk, rfl, hu2, ho2, hb2⟩ := hrel
        have U2 := hide hu2
        have O2 := hide ho2
        have B2 := hide hb2
        clear hu2 ho2 hb2
        by_cases hltk : k < r.length
        · have hltk' : (k : Int) < (r.length : Int) := by omega
          obtain ⟨rb, roff, ru, rfl, hrc, hru⟩ := (RD.out.below B2.out).row k hltk
          obtain ⟨x, hx⟩ : ∃ x, x = r.getD k 0 := ⟨_, rfl⟩
          rw [← hx] at hru
          subst hru
          have hsn : unl (pre ++ r.take (k + 1)) = (unl (pre ++ r.take k) && (Gf.elOk x && !(pre ++ r.take k).contains x)) := by
            rw [take_snocM r 0 k hltk, ← hx, ← List.append_assoc, unl_snoc]
          have htk : pre ++ r.take (k + 1) = (pre ++ r.take k) ++ [x] := by rw [take_snocM r 0 k hltk, ← hx, List.append_assoc]
          rw [U2.out, Bool.true_and] at hsn
          have SN := hide hsn
          have TK := hide htk
          clear hsn htk hx
          cases hel : Gf.elOk x with
          | false =>
            have EL := hide hel
            have hf : res = false := NO.out (k + 1) (by rw [SN.out, EL.out]; rfl)
            have F := hide hf
            clear hel hf
            go_wp2_with fail
            refine (Gf.isE_calls x _).mono ?_
            rw [EL.out]
            rintro e w' ⟨rfl, rfl⟩
            go_wp2
            go_ret
            exact ⟨Gf.ret_bool F.out.symm, B2.out⟩
          | true =>
            have EL := hide hel
            obtain ⟨hx0, hx1⟩ := elOk_facts hel
            obtain ⟨n, rfl⟩ := Int.eq_ofNat_of_zero_le hx0
            have hn256 : n < 256 := by omega
            have hcell := World.ownsRow.cellAt O2.out n (by omega)
            rw [seenL_get _ n hn256] at hcell
            have hfr : wr.frozen? ⟨w.heap.size, n, none⟩ = false := World.ownsRow.frozenAt O2.out n
            have ST := hide (World.ownsRow.stored O2.out n (.bool true))
            obtain ⟨c, hcc⟩ : ∃ c, c = (pre ++ r.take k).contains (n : Int) := ⟨_, rfl⟩
            rw [← hcc] at hcell
            have CC := hide hcc
            have i0 : (0 : Int) ≤ (n : Int) := by omega
            have i1 : (n : Int) < 256 := by omega
            clear hel hcc hx0 hx1
            cases c with
            | true =>
              have hf : res = false := NO.out (k + 1) (by rw [SN.out, EL.out, ← CC.out]; rfl)
              have F := hide hf
              clear hf
              go_wp2_with fail
              refine (Gf.isE_calls (n : Int) _).mono ?_
              rw [EL.out]
              rintro e w' ⟨rfl, rfl⟩
              go_wp2
              go_ret
              exact ⟨Gf.ret_bool F.out.symm, B2.out⟩
            | false =>
              go_wp2_with fail
              refine (Gf.isE_calls (n : Int) _).mono ?_
              rw [EL.out]
              rintro e w' ⟨rfl, rfl⟩
              go_wp2
              go_roundw
              case rel =>
                refine ⟨k + 1, by omega, by go_num, ?_, ?_, B2.out.setCell (Nat.le_refl _) _⟩
                · rw [SN.out, EL.out, ← CC.out]; rfl
                · have := ST.out.1
                  rw [seenL_set _ n hn256, ← TK.out] at this
                  exact this
              case measure => simp [intOf]; omega
        · obtain rfl : k = r.length := by omega
          go_wp2
          go_roundw
          case rel =>
            have h1 := U2.out
            have h2 := O2.out
            rw [List.take_of_length_le (Nat.le_refl _), ← FT.out] at h1 h2
            exact ⟨i + 1, by omega, by go_num, h1, h2, B2.out⟩
          case measure => simp [intOf]; omega
    · obtain rfl : i = ls.length := by omega
      have hf : res = true := by
        have := U.out
        rw [List.take_of_length_le (Nat.le_refl _)] at this
        rw [RES.out, this]
      have F := hide hf
      clear hf
      go_wp2
      go_ret
      exact ⟨Gf.ret_bool F.out.symm, B.out⟩
end Go.Proofs.YtdoldboefceliaaGreatDoor

namespace Go.Proofs.YtdoldboefceliaaGreatDoor
open Go.RowKit

theorem rd_single {w : World} {z : Int} : Rd (w.alloc (.cells #[.int .i64 z] 3)) (.slice (some ⟨w.heap.size, 0, none⟩) 1 1) [z] := by
  refine ⟨_, 1, rfl, Nat.le_refl _, ⟨by unfold maxLen; omega, fun h => by cases h⟩, .inr ⟨_, 0, rfl, by simp, fun i hi => ?_⟩⟩
  simp at hi
  subst hi
  exact World.cell?_alloc_at _ _ _ _ (by simp)
theorem cauRow_length (a : Int) (ys : List Int) : (cauRow a ys).length = ys.length := by simp [cauRow]
theorem cauRow_get (a : Int) (ys : List Int) (j : Nat) (h : j < ys.length) : (cauRow a ys).getD j 0 = ((Gf.inv (a.toNat ^^^ (ys.getD j 0).toNat) : Nat) : Int) := by simp [cauRow, List.getD_eq_getElem?_getD, h]
theorem cauM_length (xs ys : List Int) : (cauM xs ys).length = xs.length := by simp [cauM]
theorem cauM_get (xs ys : List Int) (i : Nat) (h : i < xs.length) : (cauM xs ys).getD i [] = cauRow (xs.getD i 0) ys := by simp [cauM, List.getD_eq_getElem?_getD, h]

set_option maxRecDepth 100000 in
set_option maxHeartbeats 1600000 in
theorem l2Cauchy_calls (xv yv : Value) (xs ys : List Int) (w : World) (hx : Rd w xv xs) (hy : Rd w yv ys) (ex : xs.all Gf.elOk = true) (ey : ys.all Gf.elOk = true) (hnx : xs.length ≤ 1048576) (hny : ys.length ≤ 1048576) :
    Calls Tryz.prog 187 #[xv, yv] w fun e w' => ∃ v', e = .returned v' ∧ Mat w' w.heap.size w'.heap.size v' (cauM xs ys) ∧ Below w.heap.size w w' := by
  have RX := hide hx
  have RY := hide hy
  have EX := hide ex
  have EY := hide ey
  obtain ⟨xa, xcap, rfl, _⟩ := hx
  obtain ⟨ya, ycap, rfl, _⟩ := hy
  clear ex ey
  go_enter Tryz.func187, Tryz.ntmps187
  go_wp2
  go_loopw [5, 13] (fun vo vi wr => ∃ (k : Nat) (vs : List Value), k ≤ xs.length ∧ vi = .int .i64 k ∧ MatV wr w.heap.size wr.heap.size vo vs ((cauM xs ys).take k) ∧ Below w.heap.size w wr) (fun _ vi _ => xs.length - (intOf vi).toNat)
  case atStart =>
    obtain ⟨vs, hv⟩ := Mat.nil w w.heap.size w.heap.size
    exact ⟨0, vs, Nat.zero_le _, rfl, hv, Below.refl _ _⟩
  case round =>
    obtain ⟨k, vs, hk, rfl, hm, hb⟩ := hrel
    have M := hide hm
    have B := hide hb
    clear hm hb
    by_cases hlt : k < xs.length
    · have hlt' : (k : Int) < (xs.length : Int) := by omega
      obtain ⟨b, off, u, rfl, hc, hu⟩ := (RX.out.below B.out).row k hlt
      obtain ⟨x, hxx⟩ : ∃ x, x = xs.getD k 0 := ⟨_, rfl⟩
      rw [← hxx] at hu
      subst hu
      obtain ⟨r, hr⟩ : ∃ r, r = cauRow x ys := ⟨_, rfl⟩
      have hrl : r.length = ys.length := by rw [hr, cauRow_length]
      have hrg : ∀ j, j < ys.length → r.getD j 0 = ((Gf.inv (x.toNat ^^^ (ys.getD j 0).toNat) : Nat) : Int) := fun j hj => by rw [hr, cauRow_get _ _ _ hj]
      have hnext : (cauM xs ys).take k ++ [r] = (cauM xs ys).take (k + 1) := by
        rw [take_snocM (cauM xs ys) [] k (by rw [cauM_length]; exact hlt), cauM_get _ _ _ hlt, ← hxx, hr]
      have hex := Gf.elOk_tests (Gf.all_of_getD.1 EX.out k hlt)
      rw [← hxx] at hex
      obtain ⟨A, rfl⟩ := Int.eq_ofNat_of_zero_le hex.1
      have hA : A < 256 := by omega
      have RL := hide hrl
      have RG := hide hrg
      have NX := hide hnext
      obtain ⟨W1, rfl⟩ : ∃ W1, W1 = wr := ⟨_, rfl⟩
      clear hxx hr hrl hrg hnext hex
      go_wp2
      go_loopw [8, 19] (fun vr vi wr2 => ∃ (j : Nat), j ≤ ys.length ∧ vi = .int .i64 j ∧ Own wr2 W1.heap.size vr (r.take j) ∧ Below W1.heap.size W1 wr2) (fun _ vi _ => ys.length - (intOf vi).toNat)
      case atStart => exact ⟨0, Nat.zero_le _, rfl, World.ownsRow_nil _ _ _ _, Below.refl _ _⟩
      case round =>
        obtain ⟨j, hj, rfl, ho, hb2⟩ := hrel
        have O := hide ho
        have B2 := hide hb2
        clear ho hb2
        by_cases hltj : j < ys.length
        · have hltj' : (j : Int) < (ys.length : Int) := by omega
          obtain ⟨yb, yoff, yu, rfl, hyc, hyu⟩ := ((RY.out.below B.out).below B2.out).row j hltj
          obtain ⟨y, hyy⟩ : ∃ y, y = ys.getD j 0 := ⟨_, rfl⟩
          rw [← hyy] at hyu
          subst hyu
          have hey := Gf.elOk_tests (Gf.all_of_getD.1 EY.out j hltj)
          rw [← hyy] at hey
          have hg := RG.out j hltj
          rw [← hyy] at hg
          obtain ⟨Y, rfl⟩ := Int.eq_ofNat_of_zero_le hey.1
          have hY : Y < 256 := by omega
          simp only [Int.toNat_natCast] at hg
          have hxor : bits .xor .i64 ((A : Nat) : Int) ((Y : Nat) : Int) = ((A ^^^ Y : Nat) : Int) := Gf.i64_xor _ _ (by omega) (by omega)
          have hxl : A ^^^ Y < 256 := Nat.xor_lt_two_pow (n := 8) hA hY
          obtain ⟨z, hz⟩ : ∃ z, z = Gf.inv (A ^^^ Y) := ⟨_, rfl⟩
          rw [← hz] at hg
          have CD : Hid (∀ w', Calls Tryz.prog 212 #[.int .i64 1, .int .i64 (bits .xor .i64 ((A : Nat) : Int) ((Y : Nat) : Int))] w' fun e w'' => e = .returned (.int .i64 ((z : Nat) : Int)) ∧ w' = w'') := by
            intro w'
            rw [hxor]
            refine (Gf.l1Div_calls 1 _ w' (by omega) (by omega) (by omega) (by omega)).mono ?_
            rintro e w'' ⟨rfl, rfl⟩
            refine ⟨?_, rfl⟩
            have e1 : Gf.mul (Int.toNat 1) (Gf.inv (Int.toNat ((A ^^^ Y : Nat) : Int))) = z := by
              rw [Int.toNat_natCast, hz]
              exact Gf.one_mul _ (Gf.inv_lt _)
            rw [e1]
          have HG := hide hg
          have hl2 : (r.take j).length = j := by rw [List.length_take, RL.out]; omega
          have HL2 := hide hl2
          clear hyy hey hg hxor hxl hz hl2
          go_wp2_with fail
          refine (CD.out _).mono ?_
          rintro e w2 ⟨rfl, rfl⟩
          have O2 := hide (O.out.alloc (.cells #[.int .i64 ((z : Nat) : Int)] 3))
          go_wp2_with (at_builtin; refine wpList_append_rd rfl _ _ rfl W1.heap.size _ (r.take j).length (r.take j) [((z : Nat) : Int)] rfl O2.out _ rfl rd_single (by rw [HL2.out]; simp; omega) (by have := B2.out.size; simp; omega) ?_)
          intro v' w3 ho3 hg3
          have hb3 : Below W1.heap.size W1 w3 := (B2.out.alloc B2.out.size _).grown hg3 (by have := B2.out.size; simp; omega) (fun i hi => (O.out.lt i hi).1)
          have e : r.take j ++ [((z : Nat) : Int)] = r.take (j + 1) := by rw [take_snocM r 0 j (by rw [RL.out]; exact hltj), HG.out]
          rw [e] at ho3
          have O3 := hide ho3
          have B3 := hide hb3
          clear ho3 hg3 hb3 e
          go_wp2
          go_roundw
          case rel => exact ⟨j + 1, by omega, by go_num, O3.out, B3.out⟩
          case measure => simp [intOf]; omega
        · obtain rfl : j = ys.length := by omega
          have ho := O.out
          rw [← RL.out, List.take_of_length_le (Nat.le_refl _)] at ho
          obtain ⟨ra, rn, rc, rfl⟩ := ho.shape
          have OO := hide ho
          clear ho O
          go_wp2_with (at_builtin; refine wpList_append_row rfl _ _ rfl w.heap.size W1.heap.size _ vs ((cauM xs ys).take k) rfl M.out (B2.out.alloc B2.out.size _) _ r (OO.out.below ((Below.refl _ _).alloc (Nat.le_refl _) _)) (Nat.le_refl _) B.out.size _ rfl (World.cell?_alloc_at _ _ _ _ (by simp)) (by simp; omega) ?_)
          intro v2 w2 hM2 hB2
          rw [NX.out] at hM2
          have M2 := hide hM2
          have B3 := hide hB2
          clear hM2 hB2
          go_wp2
          go_roundw
          case rel => exact ⟨k + 1, _, by omega, by go_num, M2.out, B.out.trans B3.out⟩
          case measure => simp [intOf]; omega
    · obtain rfl : k = xs.length := by omega
      go_wp2
      go_ret
      have hm := M.out
      rw [List.take_of_length_le (by rw [cauM_length]; exact Nat.le_refl _)] at hm
      exact ⟨_, rfl, ⟨_, hm⟩, B.out⟩
end Go.Proofs.YtdoldboefceliaaGreatDoor

namespace Go.Proofs.YtdoldboefceliaaGreatDoor
open Go.RowKit

def cauOk (xs ys : List Int) : Bool := decide (1 ≤ (xs.length : Int) ∧ (xs.length : Int) ≤ 8) && (decide (1 ≤ (ys.length : Int) ∧ (ys.length : Int) ≤ 8) && unl (xs ++ ys))
def cauR (xs ys : List Int) : List (List Int) × Bool := if cauOk xs ys = true then (cauM xs ys, true) else ([], false)
theorem cauOk_facts {xs ys : List Int} (h : cauOk xs ys = true) : (1 ≤ xs.length ∧ xs.length ≤ 8) ∧ (1 ≤ ys.length ∧ ys.length ≤ 8) ∧ unl (xs ++ ys) = true := by
  simp only [cauOk, Bool.and_eq_true, decide_eq_true_eq] at h
  exact ⟨by omega, by omega, h.2.2⟩
theorem unl_parts {xs ys : List Int} (h : unl (xs ++ ys) = true) : xs.all Gf.elOk = true ∧ ys.all Gf.elOk = true := by
  have := unl_els h
  rw [List.all_append, Bool.and_eq_true] at this
  exact this
theorem cauR_tot (xs ys : List Int) : (cauR xs ys).1.length + tot (cauR xs ys).1 ≤ 1048576 := by
  unfold cauR
  split
  · rename_i h
    obtain ⟨h1, h2, _⟩ := cauOk_facts h
    simp only []
    have : ∀ k, k ≤ xs.length → tot ((cauM xs ys).take k) ≤ 8 * k := by
      intro k
      induction k with
      | zero => intro _; simp [tot]
      | succ k ih =>
        intro hk
        rw [tot_take_succ _ k (by rw [cauM_length]; omega), cauM_get _ _ k (by omega), cauRow_length]
        have := ih (by omega)
        omega
    have := this xs.length (Nat.le_refl _)
    rw [List.take_of_length_le (by rw [cauM_length]; exact Nat.le_refl _)] at this
    rw [cauM_length]
    omega
  · simp [tot]
theorem rdM_pair {w : World} {xv yv : Value} {xs ys : List Int} (hx : Rd w xv xs) (hy : Rd w yv ys) : RdM (w.alloc (.cells #[xv, yv] 27)) (.slice (some ⟨w.heap.size, 0, none⟩) 2 2) [xs, ys] := by
  have hb : Below w.heap.size w (w.alloc (.cells #[xv, yv] 27)) := (Below.refl _ _).alloc (Nat.le_refl _) _
  refine ⟨_, 2, rfl, Nat.le_refl _, ⟨by unfold maxLen; omega, fun h => by cases h⟩, .inr ⟨_, 0, rfl, by simp, fun i hi => ?_⟩⟩
  simp at hi
  match i, hi with
  | 0, _ => exact ⟨xv, World.cell?_alloc_at _ _ _ _ (by simp), hx.below hb⟩
  | 1, _ => exact ⟨yv, World.cell?_alloc_at _ _ _ _ (by simp), hy.below hb⟩

set_option maxRecDepth 100000 in
set_option maxHeartbeats 3200000 in
theorem cauchy_good (xv yv : Value) (xs ys : List Int) (w : World) (hT : Gf.Tab w) (hx : Rd w xv xs) (hy : Rd w yv ys) (hok : cauOk xs ys = true) :
    Calls Tryz.prog 196 #[xv, yv] w fun e w' => ∃ v', e = .returned (.tuple #[v', .bool true]) ∧ Mat w' w.heap.size w'.heap.size v' (cauM xs ys) ∧ Below w.heap.size w w' := by
  obtain ⟨⟨hx1, hx8⟩, ⟨hy1, hy8⟩, hu⟩ := cauOk_facts hok
  obtain ⟨ex, ey⟩ := unl_parts hu
  have RX := hide hx
  have RY := hide hy
  have T := hide hT
  have EX := hide ex
  have EY := hide ey
  have U := hide hu
  have UP : Hid (unl ([xs, ys] : List (List Int)).flatten = true) := by
    show unl ([xs, ys] : List (List Int)).flatten = true
    simpa using hu
  obtain ⟨xa, xcap, rfl, _⟩ := hx
  obtain ⟨ya, ycap, rfl, _⟩ := hy
  have b1 : Hid (decide (1 ≤ (xs.length : Int) ∧ (xs.length : Int) ≤ 8) = true) := decide_eq_true (by omega)
  have b2 : Hid (decide (1 ≤ (ys.length : Int) ∧ (ys.length : Int) ≤ 8) = true) := decide_eq_true (by omega)
  obtain ⟨P, hP⟩ : ∃ P, P = cauM xs ys := ⟨_, rfl⟩
  rw [← hP]
  have hPl : P.length = xs.length := by rw [hP, cauM_length]
  have hPg : ∀ k, k < xs.length → P.getD k [] = cauRow (xs.getD k 0) ys := fun k hk => by rw [hP, cauM_get _ _ _ hk]
  have PL := hide hPl
  have PG := hide hPg
  obtain ⟨l, hl⟩ : ∃ l, l = ys.length := ⟨_, rfl⟩
  have HL := hide hl
  clear hT hok hu ex ey hP hPl hPg hl
  go_enter Tryz.func196, Tryz.ntmps196
  go_wp2_with fail
  refine (isSide_calls _ _).mono ?_
  rw [b1.out]
  rintro e w' ⟨rfl, rfl⟩
  go_wp2_with fail
  refine (isSide_calls _ _).mono ?_
  rw [b2.out]
  rintro e w' ⟨rfl, rfl⟩
  go_wp2_with fail
  refine (areUnlike_calls _ [xs, ys] _ (rdM_pair RX.out RY.out) (by simp) (fun i hi => by simp at hi; match i, hi with | 0, _ => (show xs.length ≤ _; omega) | 1, _ => (show ys.length ≤ _; omega))).mono ?_
  rw [UP.out]
  rintro e w2 ⟨rfl, hb2⟩
  have h0 : Below w.heap.size w (w.alloc (.cells #[.slice xa xs.length xcap, .slice ya ys.length ycap] 27)) := (Below.refl _ _).alloc (Nat.le_refl _) _
  have B2 := hide (h0.trans (hb2.mono h0.size))
  clear hb2 h0
  go_wp2_with fail
  refine (newRows_calls xs.length ys.length _ (by omega) (by omega)).mono ?_
  rintro e w3 ⟨v3, rfl, ⟨vs, hm⟩, hb3⟩
  rw [← HL.out, ← PL.out, ← gTo_zero] at hm
  obtain ⟨g, cap, hv3, hg1, hg2, hg3, hg4⟩ := hm.open (by rw [gTo_length _ _ _ (Nat.zero_le _), PL.out]; omega)
  rw [gTo_length _ _ _ (Nat.zero_le _), PL.out] at hv3 hg3
  subst hv3
  have M3 := hide hm
  have B3 := hide (B2.out.trans (hb3.mono B2.out.size))
  have hs23 : w.heap.size ≤ w2.heap.size := B2.out.size
  have S2 : 1 < w2.heap.size := Nat.lt_of_lt_of_le (Gf.tab_pos T.out) hs23
  clear hm hb3
  go_wp2
  go_loopw [35] (fun vi wr => ∃ (k : Nat), k ≤ xs.length ∧ vi = .int .i64 k ∧ MatV wr w2.heap.size w3.heap.size (.slice (some ⟨g, 0, none⟩) xs.length cap) vs (gTo P (List.replicate l 0) k) ∧ Chg w2.heap.size w3.heap.size w3 wr) (fun vi _ => xs.length - (intOf vi).toNat)
  case atStart => exact ⟨0, Nat.zero_le _, rfl, M3.out, Chg.refl _ _ _⟩
  case round =>
    obtain ⟨k, hk, rfl, hM, hC⟩ := hrel
    by_cases hlt : k < xs.length
    · have hlt' : (k : Int) < (xs.length : Int) := by omega
      have BW := hide (B3.out.trans (hC.below hs23 B3.out.size))
      obtain ⟨b, off, u, rfl, hc, hu⟩ := (RX.out.below BW.out).row k hlt
      obtain ⟨x, hxx⟩ : ∃ x, x = xs.getD k 0 := ⟨_, rfl⟩
      rw [← hxx] at hu
      subst hu
      have hex := Gf.elOk_tests (Gf.all_of_getD.1 EX.out k hlt)
      rw [← hxx] at hex
      have hpg := PG.out k hlt
      rw [← hxx] at hpg
      obtain ⟨A, rfl⟩ := Int.eq_ofNat_of_zero_le hex.1
      have hA : A < 256 := by omega
      obtain ⟨r, hr⟩ : ∃ r, r = cauRow ((A : Nat) : Int) ys := ⟨_, rfl⟩
      have hrl : r.length = l := by rw [hr, cauRow_length, HL.out]
      have hrg : ∀ j, j < ys.length → r.getD j 0 = ((Gf.inv (A ^^^ (ys.getD j 0).toNat) : Nat) : Int) := fun j hj => by rw [hr, cauRow_get _ _ _ hj]; simp
      rw [← hr] at hpg
      have hkl : k < (gTo P (List.replicate l 0) k).length := by rw [gTo_length _ _ _ (by rw [PL.out]; exact hk), PL.out]; exact hlt
      have M := hide hM
      have C := hide hC
      have PK := hide hpg
      have RL := hide hrl
      have RG := hide hrg
      have KL := hide hkl
      clear hM hC hxx hex hpg hr hrl hrg hkl
      go_wp2
      go_loopw [42] (fun vi wr2 => ∃ (j : Nat), j ≤ ys.length ∧ vi = .int .i64 j ∧ MatV wr2 w2.heap.size w3.heap.size (.slice (some ⟨g, 0, none⟩) xs.length cap) vs ((gTo P (List.replicate l 0) k).set k (cpTo r j)) ∧ Chg w2.heap.size w3.heap.size w3 wr2) (fun vi _ => ys.length - (intOf vi).toNat)
      case atStart =>
        refine ⟨0, Nat.zero_le _, rfl, ?_, C.out⟩
        have e := gTo_get P (List.replicate l 0) k (by rw [PL.out]; exact hlt)
        have e2 := set_same _ k [] KL.out
        rw [e] at e2
        rw [cpTo_zero, RL.out, e2]
        exact M.out
      case round =>
        obtain ⟨j, hj, rfl, hM2, hC2⟩ := hrel
        by_cases hltj : j < ys.length
        · have hltj' : (j : Int) < (ys.length : Int) := by omega
          have BW2 := hide (B3.out.trans (hC2.below hs23 B3.out.size))
          obtain ⟨yb, yoff, yu, rfl, hyc, hyu⟩ := (RY.out.below BW2.out).row j hltj
          obtain ⟨y, hyy⟩ : ∃ y, y = ys.getD j 0 := ⟨_, rfl⟩
          rw [← hyy] at hyu
          subst hyu
          have hey := Gf.elOk_tests (Gf.all_of_getD.1 EY.out j hltj)
          rw [← hyy] at hey
          have hg := RG.out j hltj
          rw [← hyy] at hg
          obtain ⟨Y, rfl⟩ := Int.eq_ofNat_of_zero_le hey.1
          have hY : Y < 256 := by omega
          simp only [Int.toNat_natCast] at hg
          have hxor : bits .xor .i64 ((A : Nat) : Int) ((Y : Nat) : Int) = ((A ^^^ Y : Nat) : Int) := Gf.i64_xor _ _ (by omega) (by omega)
          have hxl : A ^^^ Y < 256 := Nat.xor_lt_two_pow (n := 8) hA hY
          obtain ⟨z, hz⟩ : ∃ z, z = Gf.inv (A ^^^ Y) := ⟨_, rfl⟩
          rw [← hz] at hg
          have CI : Hid (∀ w', Gf.Tab w' → Calls Tryz.prog 223 #[.int .i64 (bits .xor .i64 ((A : Nat) : Int) ((Y : Nat) : Int))] w' fun e w'' => e = .returned (.int .i64 ((z : Nat) : Int)) ∧ w' = w'') := by
            intro w' hT'
            rw [hxor]
            refine (Gf.inv_calls _ w' hT' (by omega) (by omega)).mono ?_
            rintro e w'' ⟨rfl, rfl⟩
            refine ⟨?_, rfl⟩
            rw [Int.toNat_natCast, hz]
          have hkl2 : k < ((gTo P (List.replicate l 0) k).set k (cpTo r j)).length := by rw [List.length_set]; exact KL.out
          have hcu := hM2.cell k hkl2
          have hro := hM2.row k hkl2
          rw [getD_set _ _ _ _ _ KL.out, if_pos rfl] at hro
          obtain ⟨u, huu⟩ : ∃ u, u = vs.getD k nilRow := ⟨_, rfl⟩
          rw [← huu] at hcu hro
          have hcl : (cpTo r j).length = l := by rw [cpTo_length r j (by rw [RL.out, HL.out]; exact hj), RL.out]
          obtain ⟨g', cap', hue, hq1, hq2, hq3, hq4⟩ := hro.open1 (by rw [hcl, HL.out]; omega)
          rw [hcl, HL.out] at hue
          rw [hue] at hcu hro huu
          obtain ⟨hf, hcell⟩ := hro.at j (by rw [hcl, HL.out]; exact hltj)
          obtain ⟨old, hold⟩ : ∃ o, o = (cpTo r j).getD j 0 := ⟨_, rfl⟩
          rw [← hold] at hcell
          have W := hide (hro.put j ((z : Nat) : Int))
          have hst : (cpTo r j).set j ((z : Nat) : Int) = cpTo r (j + 1) := by rw [← hg]; exact cpTo_step r j (by rw [RL.out, HL.out]; exact hltj)
          have ST := hide hst
          have UU := hide huu
          have M2 := hide hM2
          have C2 := hide hC2
          have TT := hide (Gf.Tab.below T.out BW2.out)
          have KL2 := hide hkl2
          have i0 : (0 : Int) ≤ (k : Int) := by omega
          have i1 : (0 : Int) ≤ (j : Int) := by omega
          clear hM2 hC2 hyy hey hg hxor hxl hz hkl2 hro huu hue hcl hold hst
          go_wp2
          go_region_with (go_at_call 223; refine (CI.out _ (by exact TT.out)).mono ?_; rintro e w' ⟨rfl, rfl⟩)
          all_goals
            go_wp2
            go_roundw
            case rel =>
              have hw := W.out
              have hgg : wr.grownBy (wr.drew.setCell ⟨g', j, none⟩ (.int .i64 ((z : Nat) : Int))) (vs.getD k nilRow).ownBlock := by
                rw [← UU.out]
                exact ⟨hw.2.os, hw.2.tape, hw.2.output, hw.2.size, hw.2.block⟩
              have ho : Own (wr.drew.setCell ⟨g', j, none⟩ (.int .i64 ((z : Nat) : Int))) w2.heap.size (vs.getD k nilRow) (cpTo r (j + 1)) := by
                rw [← UU.out, ← ST.out]
                exact hw.1.drew
              refine ⟨j + 1, by omega, by go_num, ?_, C2.out.trans (M2.out.writeChg k KL2.out hgg)⟩
              have := M2.out.write k KL2.out _ ho hgg
              rw [List.set_set] at this
              exact this
            case measure => simp [intOf]; omega
        · obtain rfl : j = ys.length := by omega
          have M2 := hide hM2
          have C2 := hide hC2
          clear hM2 hC2
          go_wp2
          go_roundw
          case rel =>
            refine ⟨k + 1, by omega, by go_num, ?_, C2.out⟩
            have := M2.out
            have e := cpTo_end r
            rw [RL.out, HL.out] at e
            rw [e, ← PK.out, gTo_step _ _ k (by rw [PL.out]; exact hlt)] at this
            exact this
          case measure => simp [intOf]; omega
    · obtain rfl : k = xs.length := by omega
      have M := hide hM
      have C := hide hC
      clear hM hC
      go_wp2
      go_ret2
      have hm := M.out
      have e := gTo_end P (List.replicate l 0)
      rw [PL.out] at e
      rw [e] at hm
      exact ⟨_, rfl, ⟨_, hm.wider hs23 C.out.size⟩, B3.out.trans (C.out.below hs23 B3.out.size)⟩

set_option maxRecDepth 100000 in
set_option maxHeartbeats 1600000 in
theorem cauchy_calls (xv yv : Value) (xs ys : List Int) (w : World) (hT : Gf.Tab w) (hx : Rd w xv xs) (hy : Rd w yv ys) :
    Calls Tryz.prog 196 #[xv, yv] w fun e w' => ∃ v', e = .returned (.tuple #[v', .bool (cauR xs ys).2]) ∧ Mat w' w.heap.size w'.heap.size v' (cauR xs ys).1 ∧ Below w.heap.size w w' := by
  by_cases hok : cauOk xs ys = true
  · have e : cauR xs ys = (cauM xs ys, true) := by simp [cauR, hok]
    rw [e]
    exact cauchy_good xv yv xs ys w hT hx hy hok
  · have e : cauR xs ys = ([], false) := by simp only [cauR, if_neg hok]
    rw [e]
    clear e hT
    have RX := hide hx
    have RY := hide hy
    obtain ⟨xa, xcap, rfl, _⟩ := hx
    obtain ⟨ya, ycap, rfl, _⟩ := hy
    cases h1 : decide (1 ≤ (xs.length : Int) ∧ (xs.length : Int) ≤ 8) with
    | false =>
      have H1 := hide h1
      clear h1
      go_enter Tryz.func196, Tryz.ntmps196
      go_wp2_with fail
      refine (isSide_calls _ _).mono ?_
      rw [H1.out]
      rintro e w' ⟨rfl, rfl⟩
      go_wp2
      go_ret2
      exact ⟨_, rfl, Mat.nil _ _ _, Below.refl _ _⟩
    | true =>
      have H1 := hide h1
      cases h2 : decide (1 ≤ (ys.length : Int) ∧ (ys.length : Int) ≤ 8) with
      | false =>
        have H2 := hide h2
        clear h1 h2
        go_enter Tryz.func196, Tryz.ntmps196
        go_wp2_with fail
        refine (isSide_calls _ _).mono ?_
        rw [H1.out]
        rintro e w' ⟨rfl, rfl⟩
        go_wp2_with fail
        refine (isSide_calls _ _).mono ?_
        rw [H2.out]
        rintro e w' ⟨rfl, rfl⟩
        go_wp2
        go_ret2
        exact ⟨_, rfl, Mat.nil _ _ _, Below.refl _ _⟩
      | true =>
        have H2 := hide h2
        have hu : unl ([xs, ys] : List (List Int)).flatten = false := by
          cases hq : unl ([xs, ys] : List (List Int)).flatten with
          | false => rfl
          | true =>
            refine absurd ?_ hok
            rw [cauOk, h1, h2]
            simpa using hq
        have U := hide hu
        have hx8 := of_decide_eq_true h1
        have hy8 := of_decide_eq_true h2
        clear h1 h2 hu hok
        go_enter Tryz.func196, Tryz.ntmps196
        go_wp2_with fail
        refine (isSide_calls _ _).mono ?_
        rw [H1.out]
        rintro e w' ⟨rfl, rfl⟩
        go_wp2_with fail
        refine (isSide_calls _ _).mono ?_
        rw [H2.out]
        rintro e w' ⟨rfl, rfl⟩
        go_wp2_with fail
        refine (areUnlike_calls _ [xs, ys] _ (rdM_pair RX.out RY.out) (by simp) (fun i hi => by simp at hi; match i, hi with | 0, _ => (show xs.length ≤ _; omega) | 1, _ => (show ys.length ≤ _; omega))).mono ?_
        rw [U.out]
        rintro e w2 ⟨rfl, hb2⟩
        have h0 : Below w.heap.size w (w.alloc (.cells #[.slice xa xs.length xcap, .slice ya ys.length ycap] 27)) := (Below.refl _ _).alloc (Nat.le_refl _) _
        have B2 := hide (h0.trans (hb2.mono h0.size))
        clear hb2 h0
        go_wp2
        go_ret2
        exact ⟨_, rfl, Mat.nil _ _ _, B2.out⟩

end Go.Proofs.YtdoldboefceliaaGreatDoor

namespace Go.Proofs.YtdoldboefceliaaGreatDoor
open Go.RowKit

def codeOk (d q : Int) : Bool := decide (1 ≤ d ∧ d ≤ 6) && decide (1 ≤ q ∧ q ≤ 4)
theorem codeOk_facts {d q : Int} (h : codeOk d q = true) : 1 ≤ d ∧ d ≤ 6 ∧ 1 ≤ q ∧ q ≤ 4 := by
  simp only [codeOk, Bool.and_eq_true, decide_eq_true_eq] at h
  omega
theorem codeOk_no {d q : Int} (h : ¬ (1 ≤ d ∧ d ≤ 6 ∧ 1 ≤ q ∧ q ≤ 4)) : codeOk d q = false := by
  cases e : codeOk d q with
  | false => rfl
  | true => exact absurd (codeOk_facts e) h
theorem codeOk_yes {d q : Int} (h : 1 ≤ d ∧ d ≤ 6 ∧ 1 ≤ q ∧ q ≤ 4) : codeOk d q = true := by
  simp only [codeOk, Bool.and_eq_true, decide_eq_true_eq]
  omega
set_option maxRecDepth 100000 in
theorem isCode_calls (d q : Int) (w : World) :
    Calls Tryz.prog 129 #[.int .i64 d, .int .i64 q] w fun e w' => e = .returned (.bool (codeOk d q)) ∧ w = w' := by
  by_cases h1 : 1 ≤ d
  · by_cases h2 : d ≤ 6
    · by_cases h3 : 1 ≤ q
      · by_cases h4 : q ≤ 4
        · rw [codeOk_yes ⟨h1, h2, h3, h4⟩]
          go_enter Tryz.func129, Tryz.ntmps129
          go_wp2
          go_ret
          exact ⟨rfl, rfl⟩
        · rw [codeOk_no (by omega)]
          go_enter Tryz.func129, Tryz.ntmps129
          go_wp2
          go_ret
          exact ⟨rfl, rfl⟩
      · rw [codeOk_no (by omega)]
        go_enter Tryz.func129, Tryz.ntmps129
        go_wp2
        go_ret
        exact ⟨rfl, rfl⟩
    · rw [codeOk_no (by omega)]
      go_enter Tryz.func129, Tryz.ntmps129
      go_wp2
      go_ret
      exact ⟨rfl, rfl⟩
  · rw [codeOk_no (by omega)]
    go_enter Tryz.func129, Tryz.ntmps129
    go_wp2
    go_ret
    exact ⟨rfl, rfl⟩
set_option maxRecDepth 100000 in
theorem l3Size_calls (d q : Int) (w : World) :
    Calls Tryz.prog 140 #[.int .i64 d, .int .i64 q] w fun e w' => e = .returned (.bool (codeOk d q)) ∧ w = w' := by
  obtain ⟨b1, hb1⟩ : ∃ b, b = decide (1 ≤ d ∧ d ≤ 6) := ⟨_, rfl⟩
  obtain ⟨b2, hb2⟩ : ∃ b, b = decide (1 ≤ q ∧ q ≤ 4) := ⟨_, rfl⟩
  have hc : codeOk d q = (b1 && b2) := by rw [codeOk, ← hb1, ← hb2]
  rw [hc]
  have B1 := hide hb1
  have B2 := hide hb2
  clear hb1 hb2 hc
  cases b1 with
  | false =>
    go_enter Tryz.func140, Tryz.ntmps140
    go_wp2_with fail
    refine (Gf.l1In_calls _ _ _ _).mono ?_
    rw [← B1.out]
    rintro e w' ⟨rfl, rfl⟩
    go_wp2
    go_ret
    exact ⟨rfl, rfl⟩
  | true =>
    go_enter Tryz.func140, Tryz.ntmps140
    go_wp2_with fail
    refine (Gf.l1In_calls _ _ _ _).mono ?_
    rw [← B1.out]
    rintro e w' ⟨rfl, rfl⟩
    go_wp2_with fail
    refine (Gf.l1In_calls _ _ _ _).mono ?_
    rw [← B2.out]
    rintro e w' ⟨rfl, rfl⟩
    go_wp2
    go_ret
    exact ⟨rfl, rfl⟩
end Go.Proofs.YtdoldboefceliaaGreatDoor
