/-
  Unlike elements and Cauchy's rows: the program's functions and its model's, call by call. The program's table of rests must hold its seven numbers where the program's own function is called.
-/
import Derived.Test.YtiojipicincgfaaDoorUnlN
import Derived.Test.YtiojipicincgfaaDoorMulM
import Derived.Test.YtiojipicincgfaaDoorCat
import Derived.Deep.WholeRow
namespace Go.Proofs.YtiojipicincgfaaDoor
open Go.RowKit

theorem contains_at {xs : List Int} {x : Int} {k : Nat} (hk : k < xs.length) (h : xs.getD k 0 = x) : xs.contains x = true := by
  rw [List.contains_eq_mem, decide_eq_true_eq, ← h, List.getD_eq_getElem?_getD, List.getElem?_eq_getElem hk, Option.getD_some]
  exact List.getElem_mem hk
theorem contains_no {xs : List Int} {x : Int} (h : ∀ i, i < xs.length → xs.getD i 0 ≠ x) : xs.contains x = false := by
  rw [List.contains_eq_mem, decide_eq_false_iff_not]
  intro hm
  obtain ⟨i, hi, rfl⟩ := List.mem_iff_getElem.1 hm
  refine h i hi ?_
  rw [List.getD_eq_getElem?_getD, List.getElem?_eq_getElem hi, Option.getD_some]

theorem rd_take {w : World} {a : Option Addr} {n cap : Nat} {xs : List Int} (h : Rd w (.slice a n cap) xs) (i : Nat) (hi : i ≤ xs.length) : Rd w (.slice a i cap) (xs.take i) := by
  obtain ⟨a', cap', hv, h1, h2, h3⟩ := h
  simp only [Value.slice.injEq] at hv
  obtain ⟨rfl, rfl, rfl⟩ := hv
  have hl : (xs.take i).length = i := by simp; omega
  refine ⟨a, cap, by rw [hl], by rw [hl]; omega, h2, ?_⟩
  rcases h3 with h3 | ⟨b, off, rfl, hlt, hc⟩
  · subst h3; exact .inl (by simp)
  · refine .inr ⟨b, off, rfl, hlt, fun j hj => ?_⟩
    rw [hl] at hj
    rw [hc j (by omega)]
    simp [List.getD_eq_getElem?_getD, hj]

theorem seenZero : Tryd.zeroCells103 = (List.replicate 256 (Value.bool false)).toArray := by kernel_rfl
theorem seenInfo : (Tryd.prog.info? 103).map (·.size) = some Tryd.zeroCells103.size := by kernel_rfl
theorem seenOne : Tryd.zeroCells103.all (·.oneCell') = true := by kernel_rfl
theorem seen_new (w : World) : (w.alloc (.cells Tryd.zeroCells103 103)).ownsRow w.heap.size 103 1 (.slice (some ⟨w.heap.size, 0, none⟩) 256 256) 256 (seenL []) := by
  have := of_block_V (w := w.alloc (.cells Tryd.zeroCells103 103)) (base := w.heap.size) (g := w.heap.size) (e := 103) (zs := List.replicate 256 (Value.bool false)) (by rw [← seenZero]; exact heap_alloc_last w _) (Nat.le_refl _) (by rw [List.length_replicate]; unfold maxLen; omega)
  rw [seenL_nil]
  rw [List.length_replicate] at this
  exact this
theorem flat_take (ls : List (List Int)) (i : Nat) (h : i < ls.length) : (ls.take (i + 1)).flatten = (ls.take i).flatten ++ ls.getD i [] := by
  rw [take_snocM ls [] i h, List.flatten_append]
  simp
theorem flat_no {ls : List (List Int)} {i k : Nat} (hi : i < ls.length) (h : unl ((ls.take i).flatten ++ (ls.getD i []).take k) = false) : unl ls.flatten = false := by
  have e : ls.flatten = ((ls.take i).flatten ++ (ls.getD i []).take k) ++ ((ls.getD i []).drop k ++ (ls.drop (i + 1)).flatten) := by
    conv => lhs; rw [← List.take_append_drop (i + 1) ls, List.flatten_append, flat_take ls i hi]
    rw [List.append_assoc, List.append_assoc, ← List.append_assoc ((ls.getD i []).take k), List.take_append_drop]
  rw [e]
  exact unl_app h _

set_option maxRecDepth 100000 in
set_option maxHeartbeats 1600000 in
theorem areUnlike_calls (v : Value) (ls : List (List Int)) (w : World) (h : RdM w v ls) (hn : ls.length ≤ 1048576) (hl : ∀ i, i < ls.length → (ls.getD i []).length ≤ 1048576) :
    Calls Tryd.prog 89 #[v] w fun e w' => e = .returned (.bool (unl ls.flatten)) ∧ Below w.heap.size w w' := by
  have R := hide h
  have HL := hide hl
  obtain ⟨a, cap, rfl, _⟩ := h
  clear hl
  obtain ⟨res, hres⟩ : ∃ r, r = unl ls.flatten := ⟨_, rfl⟩
  rw [← hres]
  have RES := hide hres
  clear hres
  have hsc := run_storeCells_new (P := Tryd.prog) w 103 Tryd.zeroCells103 Tryd.zeroCells103 seenInfo rfl seenOne
  have HSC := hide hsc
  clear hsc
  go_enter Tryd.func89, Tryd.ntmps89
  go_wp2
  rw [HSC.out]
  simp only [Result.andThen]
  rw [Oper.upon_skip]
  have O0 := hide (seen_new w)
  have B0 := hide ((Below.refl w.heap.size w).alloc (Nat.le_refl _) (.cells Tryd.zeroCells103 103))
  obtain ⟨w0, hw0⟩ : ∃ w0, w0 = w.alloc (.cells Tryd.zeroCells103 103) := ⟨_, rfl⟩
  rw [← hw0] at O0 B0 ⊢
  clear hw0 HSC
  go_wp2
  go_loopw [11] (fun vi wr => ∃ (i : Nat), i ≤ ls.length ∧ vi = .int .i64 i ∧ unl (ls.take i).flatten = true ∧ wr.ownsRow w.heap.size 103 1 (.slice (some ⟨w.heap.size, 0, none⟩) 256 256) 256 (seenL (ls.take i).flatten) ∧ Below w.heap.size w wr) (fun vi _ => ls.length - (intOf vi).toNat)
  case atStart => exact ⟨0, Nat.zero_le _, rfl, unl_nil, O0.out, B0.out⟩
  case round =>
    obtain ⟨i, hi, rfl, hu, ho, hb⟩ := hrel
    have U := hide hu
    have O := hide ho
    have B := hide hb
    clear hu ho hb
    by_cases hlt : i < ls.length
    · have hlt' : (i : Int) < (ls.length : Int) := by omega
      obtain ⟨b, off, uv, rfl, hbl, hc, hrd⟩ := R.out.rowAt i hlt
      have hc1 : wr.cell? ⟨b, off + i, none⟩ = some uv := (B.out.cell (p := ⟨b, off + i, none⟩) hbl).trans hc
      obtain ⟨r, hr⟩ : ∃ r, r = ls.getD i [] := ⟨_, rfl⟩
      have hrl := HL.out i hlt
      have hft := flat_take ls i hlt
      rw [← hr] at hrd hrl hft
      obtain ⟨pre, hpre⟩ : ∃ p, p = (ls.take i).flatten := ⟨_, rfl⟩
      have hno : ∀ k, unl (pre ++ r.take k) = false → res = false := fun k hk => by
        rw [RES.out]
        exact flat_no hlt (k := k) (by rw [← hr, ← hpre]; exact hk)
      rw [← hpre] at hft
      have hu1 := U.out
      have ho1 := O.out
      rw [← hpre] at hu1 ho1
      have RD := hide hrd
      have NO := hide hno
      have FT := hide hft
      have U1 := hide hu1
      have O1 := hide ho1
      obtain ⟨ua, uc, rfl, _⟩ := hrd
      clear hc hr hft hpre hno hu1 ho1 U O
      go_wp2
      go_loopw [17] (fun vi wr2 => ∃ (k : Nat), k ≤ r.length ∧ vi = .int .i64 k ∧ unl (pre ++ r.take k) = true ∧ wr2.ownsRow w.heap.size 103 1 (.slice (some ⟨w.heap.size, 0, none⟩) 256 256) 256 (seenL (pre ++ r.take k)) ∧ Below w.heap.size w wr2) (fun vi _ => r.length - (intOf vi).toNat)
      case atStart =>
        refine ⟨0, Nat.zero_le _, rfl, ?_, ?_, B.out⟩
        · rw [List.take_zero, List.append_nil]; exact U1.out
        · rw [List.take_zero, List.append_nil]; exact O1.out
      case round =>
        obtain ⟨k, hk, rfl, hu2, ho2, hb2⟩ := hrel
        have U2 := hide hu2
        have O2 := hide ho2
        have B2 := hide hb2
        clear hu2 ho2 hb2
        by_cases hltk : k < r.length
        · have hltk' : (k : Int) < (r.length : Int) := by omega
          obtain ⟨rb, roff, ru, rfl, hrc, hru⟩ := (RD.out.below B2.out).row k hltk
          obtain ⟨x, hx⟩ : ∃ x, x = r.getD k 0 := ⟨_, rfl⟩
          rw [← hx] at hru
          subst hru
          have hsn : unl (pre ++ r.take (k + 1)) = (unl (pre ++ r.take k) && (Gf.elOk x && !(pre ++ r.take k).contains x)) := by
            rw [take_snocM r 0 k hltk, ← hx, ← List.append_assoc, unl_snoc]
          have htk : pre ++ r.take (k + 1) = (pre ++ r.take k) ++ [x] := by rw [take_snocM r 0 k hltk, ← hx, List.append_assoc]
          rw [U2.out, Bool.true_and] at hsn
          have SN := hide hsn
          have TK := hide htk
          clear hsn htk hx
          cases hel : Gf.elOk x with
          | false =>
            have EL := hide hel
            have hf : res = false := NO.out (k + 1) (by rw [SN.out, EL.out]; rfl)
            have F := hide hf
            clear hel hf
            go_wp2_with fail
            refine (Gf.isE_calls x _).mono ?_
            rw [EL.out]
            rintro e w' ⟨rfl, rfl⟩
            go_wp2
            go_ret
            exact ⟨Gf.ret_bool F.out.symm, B2.out⟩
          | true =>
            have EL := hide hel
            obtain ⟨hx0, hx1⟩ := elOk_facts hel
            obtain ⟨n, rfl⟩ := Int.eq_ofNat_of_zero_le hx0
            have hn256 : n < 256 := by omega
            have hcell := World.ownsRow.cellAt O2.out n (by omega)
            rw [seenL_get _ n hn256] at hcell
            have hfr : wr.frozen? ⟨w.heap.size, n, none⟩ = false := World.ownsRow.frozenAt O2.out n
            have ST := hide (World.ownsRow.stored O2.out n (.bool true))
            obtain ⟨c, hcc⟩ : ∃ c, c = (pre ++ r.take k).contains (n : Int) := ⟨_, rfl⟩
            rw [← hcc] at hcell
            have CC := hide hcc
            have i0 : (0 : Int) ≤ (n : Int) := by omega
            have i1 : (n : Int) < 256 := by omega
            clear hel hcc hx0 hx1
            cases c with
            | true =>
              have hf : res = false := NO.out (k + 1) (by rw [SN.out, EL.out, ← CC.out]; rfl)
              have F := hide hf
              clear hf
              go_wp2_with fail
              refine (Gf.isE_calls (n : Int) _).mono ?_
              rw [EL.out]
              rintro e w' ⟨rfl, rfl⟩
              go_wp2
              go_ret
              exact ⟨Gf.ret_bool F.out.symm, B2.out⟩
            | false =>
              go_wp2_with fail
              refine (Gf.isE_calls (n : Int) _).mono ?_
              rw [EL.out]
              rintro e w' ⟨rfl, rfl⟩
              go_wp2
              go_roundw
              case rel =>
                refine ⟨k + 1, by omega, by go_num, ?_, ?_, B2.out.setCell (Nat.le_refl _) _⟩
                · rw [SN.out, EL.out, ← CC.out]; rfl
                · have := ST.out.1
                  rw [seenL_set _ n hn256, ← TK.out] at this
                  exact this
              case measure => simp [intOf]; omega
        · obtain rfl : k = r.length := by omega
          go_wp2
          go_roundw
          case rel =>
            have h1 := U2.out
            have h2 := O2.out
            rw [List.take_of_length_le (Nat.le_refl _), ← FT.out] at h1 h2
            exact ⟨i + 1, by omega, by go_num, h1, h2, B2.out⟩
          case measure => simp [intOf]; omega
    · obtain rfl : i = ls.length := by omega
      have hf : res = true := by
        have := U.out
        rw [List.take_of_length_le (Nat.le_refl _)] at this
        rw [RES.out, this]
      have F := hide hf
      clear hf
      go_wp2
      go_ret
      exact ⟨Gf.ret_bool F.out.symm, B.out⟩
end Go.Proofs.YtiojipicincgfaaDoor
