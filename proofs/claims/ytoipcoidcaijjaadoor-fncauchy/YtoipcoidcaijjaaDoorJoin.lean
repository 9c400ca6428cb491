/-
  Rows put behind rows: a copy into part of a list of the call's own, and the program's joinRows. Each contract says what it asks.
-/
import Derived.Test.YtoipcoidcaijjaaDoorRank
import Derived.Deep.RegionLaw
namespace Go.Proofs.YtoipcoidcaijjaaDoor
open Go.RowKit

def spl (ws : List Int) (off : Nat) (zs : List Int) : List Int := ws.take off ++ (zs ++ ws.drop (off + zs.length))
theorem spl_length (ws : List Int) (off : Nat) (zs : List Int) (h : off + zs.length ≤ ws.length) : (spl ws off zs).length = ws.length := by simp [spl]; omega
theorem own_setRow {w : World} {base g N off : Nat} {ws zs : List Int} (ho : Own w base (.slice (some ⟨g, 0, none⟩) N N) ws) (hfit : off + zs.length ≤ ws.length) :
    Own (w.setRow g ((ws.map (Value.int .i64)).toArray.toList.take off ++ (zs.map (Value.int .i64) ++ (ws.map (Value.int .i64)).toArray.toList.drop (off + (zs.map (Value.int .i64)).length))).toArray) base (.slice (some ⟨g, 0, none⟩) N N) (spl ws off zs) ∧
      w.grownBy (w.setRow g ((ws.map (Value.int .i64)).toArray.toList.take off ++ (zs.map (Value.int .i64) ++ (ws.map (Value.int .i64)).toArray.toList.drop (off + (zs.map (Value.int .i64)).length))).toArray) (some g) := by
  have hN : ws.length = N := by
    rcases ho.2 with ⟨h', _⟩ | ⟨g', cap', cur, h', _⟩
    · simp at h'
    · simp at h'; exact h'.2.1.symm
  have hbg : base ≤ g := (World.ownsRow.lt ho g rfl).1
  have hmx : N ≤ maxLen := by
    rcases ho.2 with ⟨h', _⟩ | ⟨g', cap', cur, h', _, _, _, hm, _⟩
    · simp at h'
    · simp at h'; omega
  have hg := own_full (by unfold Own at ho; rwa [hN] at ho)
  have e : ((ws.map (Value.int .i64)).toArray.toList.take off ++ (zs.map (Value.int .i64) ++ (ws.map (Value.int .i64)).toArray.toList.drop (off + (zs.map (Value.int .i64)).length))) = (spl ws off zs).map (Value.int .i64) := by simp [spl]
  rw [e]
  have hl : (spl ws off zs).length = N := by rw [spl_length _ _ _ hfit, hN]
  have := own_of_block (base := base) (setRow_heap w g _ ((spl ws off zs).map (Value.int .i64)).toArray 3 _ hg) hbg (by rw [hl]; exact hmx)
  rw [hl] at this
  exact ⟨this, rfl, rfl, rfl, by simp [World.setRow], fun k _ hk => setRow_other w g k _ (fun e => hk (by simp [e]))⟩
theorem rd_cells {w : World} {sp : Option Addr} {sLen sCap : Nat} {zs : List Int} (hr : Rd w (.slice sp sLen sCap) zs) (h0 : 0 < zs.length) : sLen = zs.length ∧ ∃ ad, sp = some ad ∧ ∀ j y, (zs.map (Value.int .i64))[j]? = some y → w.cell? (ad.add j) = some y := by
  obtain ⟨a', cap', hv, _, _, h3⟩ := hr
  simp only [Value.slice.injEq] at hv
  obtain ⟨rfl, rfl, rfl⟩ := hv
  refine ⟨rfl, ?_⟩
  rcases h3 with h3 | ⟨b, off, rfl, _, hc⟩
  · rw [h3] at h0; simp at h0
  · refine ⟨_, rfl, fun j y hj => ?_⟩
    have hjl : j < zs.length := by simpa using (List.getElem?_eq_some_iff.1 hj).1
    have hadd : (⟨b, off, none⟩ : Addr).add j = ⟨b, off + j, none⟩ := by unfold Addr.add; split <;> simp_all
    rw [hadd, hc j hjl]
    rw [List.getElem?_map, List.getElem?_eq_getElem hjl] at hj
    simp only [Option.map_some, Option.some.injEq] at hj
    rw [← hj, List.getD_eq_getElem?_getD, List.getElem?_eq_getElem hjl, Option.getD_some]
/-- 'copy(out[off:], p)', out a list of the call's own, p not longer than what is there. -/
theorem wpList_copy_at {w : World} {ops : Array Oper} {rest : List Oper} {o : Oper} {a : Act} {Q : Exit → Act → World → Prop} (hgd : o.guard = none) (d s : Operand)
    (ho : o.op = .call { callee := .builtin .copy, args := #[d, s], argTypes := #[23, 23] })
    (base g N off dLen dCap sLen sCap : Nat) (sp : Option Addr) (ws zs : List Int) (hd : a.eval d = .slice (some ⟨g, off, none⟩) dLen dCap) (hs : a.eval s = .slice sp sLen sCap)
    (hown : Own w base (.slice (some ⟨g, 0, none⟩) N N) ws) (hr : Rd w (.slice sp sLen sCap) zs) (h0 : 0 < zs.length) (hdl : zs.length ≤ dLen) (hfit : off + zs.length ≤ ws.length)
    (h : ∀ w', Own w' base (.slice (some ⟨g, 0, none⟩) N N) (spl ws off zs) → w.grownBy w' (some g) → wpList Tryd.prog ops Q rest (a.put o.dst (goInt zs.length)) w') : wpList Tryd.prog ops Q (o :: rest) a w := by
  obtain ⟨rfl, ad, rfl, hc⟩ := rd_cells hr h0
  have hN : ws.length = N := by
    rcases hown.2 with ⟨h', _⟩ | ⟨g', cap', cur, h', _⟩
    · simp at h'
    · simp at h'; exact h'.2.1.symm
  have hg := own_full (by unfold Own at hown; rwa [hN] at hown)
  refine wpList_copy_own (w := w) hgd d s 23 23 ho 3 Tryd.underlying23 infoSize g off dLen dCap ad zs.length sCap hd hs (ws.map (Value.int .i64)).toArray 3 hg (zs.map (Value.int .i64)) (by rw [List.length_map]; exact (Nat.min_eq_left hdl).symm) hc (by simp; omega) (ints_oneCell _ _) ?_
  obtain ⟨h1, h2⟩ := own_setRow hown hfit
  have := h _ h1 h2
  simp only [List.length_map] at this ⊢
  exact this
theorem step_copy_at {w : World} {ops : Array Oper} {o : Oper} {a : Act} {K : Act → World → Prop} {Q : Exit → Act → World → Prop} {E : Prop} (hgd : o.guard = none) (d s : Operand)
    (ho : o.op = .call { callee := .builtin .copy, args := #[d, s], argTypes := #[23, 23] })
    (base g N off dLen dCap sLen sCap : Nat) (sp : Option Addr) (ws zs : List Int) (hd : a.eval d = .slice (some ⟨g, off, none⟩) dLen dCap) (hs : a.eval s = .slice sp sLen sCap)
    (hown : Own w base (.slice (some ⟨g, 0, none⟩) N N) ws) (hr : Rd w (.slice sp sLen sCap) zs) (h0 : 0 < zs.length) (hdl : zs.length ≤ dLen) (hfit : off + zs.length ≤ ws.length)
    (h : ∀ w', Own w' base (.slice (some ⟨g, 0, none⟩) N N) (spl ws off zs) → w.grownBy w' (some g) → K (a.put o.dst (goInt zs.length)) w') :
    if Region.wanted o (yielded ops a.tmps) = true then Oper.wp Tryd.prog o a w K Q else E := by
  have hw : Region.wanted o (yielded ops a.tmps) = true := by simp [Region.wanted, hgd]
  rw [if_pos hw]
  obtain ⟨rfl, ad, rfl, hc⟩ := rd_cells hr h0
  have hN : ws.length = N := by
    rcases hown.2 with ⟨h', _⟩ | ⟨g', cap', cur, h', _⟩
    · simp at h'
    · simp at h'; exact h'.2.1.symm
  have hg := own_full (by unfold Own at hown; rwa [hN] at hown)
  have hrun := run_copy_row (P := Tryd.prog) w 23 23 o.type 3 g off dLen dCap ad zs.length sCap (ws.map (Value.int .i64)).toArray 3 (zs.map (Value.int .i64)) Tryd.underlying23 infoSize hg (by rw [List.length_map]; exact (Nat.min_eq_left hdl).symm) hc (by simp; omega) (ints_oneCell _ _)
  obtain ⟨h1, h2⟩ := own_setRow hown hfit
  have := h _ h1 h2
  unfold Oper.wp
  simp [execOp, ho, resolve, invoke, builtin, hd, hs, hrun, Result.andThen]
  simp at this
  exact this

def joinI (l r : List (List Int)) : List (List Int) := (List.range l.length).map fun i => l.getD i [] ++ r.getD i []
theorem joinI_length (l r : List (List Int)) : (joinI l r).length = l.length := by simp [joinI]
theorem joinI_get (l r : List (List Int)) (i : Nat) (h : i < l.length) : (joinI l r).getD i [] = l.getD i [] ++ r.getD i [] := by simp [joinI, h]
theorem spl_two (x y : List Int) (c d : Nat) (hx : x.length = c) (hy : y.length = d) : spl (spl (List.replicate (c + d) 0) 0 x) c y = x ++ y := by
  subst hx hy
  simp [spl]

set_option maxRecDepth 100000 in
set_option maxHeartbeats 1600000 in
theorem joinRows_calls (lv rv : Value) (l r : List (List Int)) (n c d : Nat) (w : World) (hl : RdM w lv l) (hr : RdM w rv r) (hln : l.length = n) (hrn : r.length = n) (hc : ∀ i, i < n → (l.getD i []).length = c) (hd : ∀ i, i < n → (r.getD i []).length = d)
    (hn8 : n ≤ 1048576) (hc1 : 1 ≤ c) (hc8 : c ≤ 4096) (hd1 : 1 ≤ d) (hd8 : d ≤ 4096) :
    Calls Tryd.prog 149 #[lv, rv] w fun e w' => ∃ v', e = .returned v' ∧ Mat w' w.heap.size w'.heap.size v' (joinI l r) ∧ Below w.heap.size w w' := by
  have RL := hide hl
  have RR := hide hr
  obtain ⟨la, lcap, rfl, _⟩ := hl
  obtain ⟨ra, rcap, rfl, _⟩ := hr
  have HC := hide hc
  have HD := hide hd
  obtain ⟨J, hJ⟩ : ∃ J, J = joinI l r := ⟨_, rfl⟩
  rw [← hJ]
  have hJl : J.length = n := by rw [hJ, joinI_length, hln]
  have hJg : ∀ k, k < n → J.getD k [] = l.getD k [] ++ r.getD k [] := fun k hk => by rw [hJ, joinI_get _ _ _ (by rw [hln]; exact hk)]
  have JL := hide hJl
  have JG := hide hJg
  have LN := hide hln
  have RN := hide hrn
  have hln' : l.length = n := hln
  clear hc hd hJ hJl hJg
  rw [hln, hrn]
  clear hln hrn hln'
  go_enter Tryd.func149, Tryd.ntmps149
  go_wp2_with (at_make; refine wpList_make_rows rfl _ _ rfl _ _ n rfl rfl (by omega) (by omega) hn8 ?_)
  intro w0 hm0 hg0
  have M0 := hide hm0
  have G0 := hide hg0
  clear hm0 hg0
  go_wp2
  go_loopw [6, 7, 13] (fun _ _ vi wr => ∃ (k : Nat) (vs : List Value), k ≤ n ∧ vi = .int .i64 k ∧ MatV wr w.heap.size wr.heap.size (.slice (some ⟨w.heap.size, 0, none⟩) n n) vs (toTo J k) ∧ Below w.heap.size w wr) (fun _ _ vi _ => n - (intOf vi).toNat)
  case atStart =>
    refine ⟨0, List.replicate n nilRow, Nat.zero_le _, rfl, ?_, (Below.refl _ _).grown G0.out (Nat.le_refl _) (fun k h => by cases h)⟩
    rw [toTo_zero, JL.out]
    exact M0.out
  case round =>
    obtain ⟨k, vs, hk, rfl, hm, hb⟩ := hrel
    have M := hide hm
    have B := hide hb
    clear hm hb
    by_cases hlt : k < n
    · have hlt' : (k : Int) < (n : Int) := by omega
      have rl := RL.out
      have rr := RR.out
      rw [LN.out] at rl
      rw [RN.out] at rr
      obtain ⟨lb, loff, lu, rfl, hlb, hlc, hlu⟩ := rl.rowAt k (by rw [LN.out]; exact hlt)
      obtain ⟨rb, roff, ru, rfl, hrb, hrc, hru⟩ := rr.rowAt k (by rw [RN.out]; exact hlt)
      clear rl rr
      obtain ⟨x, hx⟩ : ∃ x, x = l.getD k [] := ⟨_, rfl⟩
      obtain ⟨y, hy⟩ : ∃ y, y = r.getD k [] := ⟨_, rfl⟩
      have hxl : x.length = c := by rw [hx]; exact HC.out k hlt
      have hyl : y.length = d := by rw [hy]; exact HD.out k hlt
      rw [← hx] at hlu
      rw [← hy] at hru
      have hjg := JG.out k hlt
      rw [← hx, ← hy] at hjg
      have JK := hide hjg
      have LU := hide hlu
      have RU := hide hru
      obtain ⟨lua, luc, hlv, _⟩ := hlu
      obtain ⟨rua, ruc, hrv, _⟩ := hru
      rw [hxl] at hlv
      rw [hyl] at hrv
      subst hlv hrv
      have XL := hide hxl
      have YL := hide hyl
      have hlc0 : wr.cell? ⟨lb, loff + k, none⟩ = _ := (B.out.cell (p := ⟨lb, loff + k, none⟩) hlb).trans hlc
      have hrc0 : wr.cell? ⟨rb, roff + k, none⟩ = _ := (B.out.cell (p := ⟨rb, roff + k, none⟩) hrb).trans hrc
      clear hx hy hxl hyl hjg
      go_wp2_with (at_make; refine wpList_make_ints rfl _ _ rfl wr.heap.size _ _ (c + d) rfl rfl (by omega) (by omega) (by omega) (Nat.le_refl _) ?_)
      intro w1 hx hg1
      have hb1 : Below wr.heap.size wr w1 := (Below.refl _ _).grown hg1 (Nat.le_refl _) (fun k h => by cases h)
      have hkl : k < (toTo J k).length := by rw [toTo_length _ k (by rw [JL.out]; exact hk), JL.out]; exact hlt
      have hM1 := M.out.below hb1
      have hc2 : w1.frozen? ⟨w.heap.size, k, none⟩ = false := World.ownsRow.frozenAt (by have := hM1.head; rwa [← hM1.lenEq] at this) k
      have hc3 := hM1.cell k hkl
      have L := M.out.lay k hkl hb1 _ _ hx M.out.sizeLo (Nat.le_refl _)
      have hvl : k < vs.length := by rw [M.out.len]; exact hkl
      have hcell2 := L.1.cell k (by rw [List.length_set]; exact hkl)
      rw [getD_set _ _ _ _ _ hvl, if_pos rfl] at hcell2
      have hO2 := L.1.row k (by rw [List.length_set]; exact hkl)
      rw [getD_set _ _ _ _ _ hvl, if_pos rfl, getD_set _ _ _ _ _ hkl, if_pos rfl] at hO2
      have BW := hide ((B.out.trans (hb1.mono B.out.size)).setCell (p := ⟨w.heap.size, k, none⟩) (Nat.le_refl _) (.slice (some ⟨wr.heap.size, 0, none⟩) (c + d) (c + d)))
      have LY := hide L
      have O2 := hide hO2
      have VL := hide hvl
      have KL := hide hkl
      have hg0 : w.heap.size ≤ wr.heap.size := B.out.size
      have hcell3 := hcell2
      have CL2 := hide hcell2
      have hlc2 : (w1.setCell ⟨w.heap.size, k, none⟩ (.slice (some ⟨wr.heap.size, 0, none⟩) (c + d) (c + d))).cell? ⟨lb, loff + k, none⟩ = _ := (BW.out.cell (p := ⟨lb, loff + k, none⟩) hlb).trans hlc
      have hrc2 : (w1.setCell ⟨w.heap.size, k, none⟩ (.slice (some ⟨wr.heap.size, 0, none⟩) (c + d) (c + d))).cell? ⟨rb, roff + k, none⟩ = _ := (BW.out.cell (p := ⟨rb, roff + k, none⟩) hrb).trans hrc
      clear hx hg1 hb1 hM1 L hO2 hvl hcell3
      go_wp2_with (refine wpList_copy_at rfl (.tmp 33) (.tmp 34) rfl w.heap.size wr.heap.size (c + d) 0 (c + d) (c + d) c luc lua (List.replicate (c + d) 0) x rfl rfl O2.out (LU.out.below BW.out) (by rw [XL.out]; omega) (by rw [XL.out]; omega) (by rw [XL.out, List.length_replicate]; omega) ?_)
      intro w3 hO3 hg3
      have hM3 := LY.out.1.write k (by rw [List.length_set]; exact KL.out) _ (by rw [getD_set _ _ _ _ _ VL.out, if_pos rfl]; exact hO3) (by rw [getD_set _ _ _ _ _ VL.out, if_pos rfl]; exact hg3)
      rw [List.set_set] at hM3
      have hB3 : Below w.heap.size w w3 := BW.out.grown hg3 BW.out.size (fun k hk => by cases hk; exact hg0)
      have M3 := hide hM3
      have B3 := hide hB3
      have O3 := hide hO3
      have hrc3 : w3.cell? ⟨rb, roff + k, none⟩ = _ := (hB3.cell (p := ⟨rb, roff + k, none⟩) hrb).trans hrc
      have hcell4 := hM3.cell k (by rw [List.length_set]; exact KL.out)
      rw [getD_set _ _ _ _ _ VL.out, if_pos rfl] at hcell4
      have RU3 : Hid (Rd w3.drew (.slice rua d ruc) y) := (RU.out.below hB3).below (below_drew' (Below.refl _ _))
      have O3d : Hid (Own w3.drew w.heap.size (.slice (some ⟨wr.heap.size, 0, none⟩) (c + d) (c + d)) (spl (List.replicate (c + d) 0) 0 x)) := hO3.drew
      have i0 : (0 : Int) ≤ (k : Int) := by omega
      have i1 : (0 : Int) ≤ (c : Int) := by omega
      have i2 : (c : Int) ≤ ((c + d : Nat) : Int) := by omega
      have i3 : ¬ (c + d = c) := by omega
      have i4 : c + d - c = d := by omega
      have i5 : ¬ (d = 0) := by omega
      have i6 : (c : Int) ≤ (c : Int) + (d : Int) := by omega
      have Z3 := hide hg3.size
      clear hM3 hB3 hO3 hg3
      go_wp2
      go_region_law (refine step_copy_at rfl (.tmp 42) (.tmp 46) rfl w.heap.size wr.heap.size (c + d) c d d d ruc rua (spl (List.replicate (c + d) 0) 0 x) y (by simp [Act.eval, Act.put]) (by simp [Act.eval, Act.put]) O3d.out RU3.out (by rw [YL.out]; omega) (by rw [YL.out]; omega) (by rw [YL.out, spl_length _ _ _ (by rw [XL.out, List.length_replicate]; omega), List.length_replicate]; omega) ?_; intro w4 hO4 hg4)
      all_goals
        have hM4 := M3.out.write k (by rw [List.length_set]; exact KL.out) _ (by rw [getD_set _ _ _ _ _ VL.out, if_pos rfl]; exact hO4) (by rw [getD_set _ _ _ _ _ VL.out, if_pos rfl]; exact ⟨hg4.os, hg4.tape, hg4.output, hg4.size, hg4.block⟩)
        rw [List.set_set, spl_two x y c d XL.out YL.out, ← JK.out, toTo_step _ k (by rw [JL.out]; exact hlt)] at hM4
        have hB4 : Below w.heap.size w w4 := (below_drew' B3.out).grown hg4 B3.out.size (fun k hk => by cases hk; exact hg0)
        have M4 := hide hM4
        have B4 := hide hB4
        have Z4 := hide hg4.size
        clear hM4 hB4 hO4 hg4
        go_wp2
        go_roundw
        case rel => exact ⟨k + 1, _, by omega, by go_num, M4.out.wider (Nat.le_refl _) (Nat.le_trans Z3.out Z4.out), B4.out⟩
        case measure => simp [intOf]; omega
    · obtain rfl : k = n := by omega
      go_wp2
      go_ret
      have hm := M.out
      have e := toTo_end J
      rw [JL.out] at e
      rw [e] at hm
      exact ⟨_, rfl, ⟨_, hm⟩, B.out⟩
end Go.Proofs.YtoipcoidcaijjaaDoor
