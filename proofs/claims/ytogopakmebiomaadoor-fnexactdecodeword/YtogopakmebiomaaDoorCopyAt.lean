/-
  A copy into part of a list of the call's own, the world told whole. Each law says what it asks.
-/
import Derived.Test.YtogopakmebiomaaDoorInts
import Derived.Deep.RegionLaw
namespace Go.Proofs.YtogopakmebiomaaDoor
open Go.RowKit

def spl (ws : List Int) (off : Nat) (zs : List Int) : List Int := ws.take off ++ (zs ++ ws.drop (off + zs.length))
theorem spl_length (ws : List Int) (off : Nat) (zs : List Int) (h : off + zs.length ≤ ws.length) : (spl ws off zs).length = ws.length := by simp [spl]; omega
theorem own_setRow {w : World} {base g N off : Nat} {ws zs : List Int} (ho : Own w base (.slice (some ⟨g, 0, none⟩) N N) ws) (hfit : off + zs.length ≤ ws.length) :
    Own (w.setRow g ((ws.map (Value.int .i64)).toArray.toList.take off ++ (zs.map (Value.int .i64) ++ (ws.map (Value.int .i64)).toArray.toList.drop (off + (zs.map (Value.int .i64)).length))).toArray) base (.slice (some ⟨g, 0, none⟩) N N) (spl ws off zs) ∧
      w.grownBy (w.setRow g ((ws.map (Value.int .i64)).toArray.toList.take off ++ (zs.map (Value.int .i64) ++ (ws.map (Value.int .i64)).toArray.toList.drop (off + (zs.map (Value.int .i64)).length))).toArray) (some g) := by
  have hN : ws.length = N := by
    rcases ho.2 with ⟨h', _⟩ | ⟨g', cap', cur, h', _⟩
    · simp at h'
    · simp at h'; exact h'.2.1.symm
  have hbg : base ≤ g := (World.ownsRow.lt ho g rfl).1
  have hmx : N ≤ maxLen := by
    rcases ho.2 with ⟨h', _⟩ | ⟨g', cap', cur, h', _, _, _, hm, _⟩
    · simp at h'
    · simp at h'; omega
  have hg := own_full (by unfold Own at ho; rwa [hN] at ho)
  have e : ((ws.map (Value.int .i64)).toArray.toList.take off ++ (zs.map (Value.int .i64) ++ (ws.map (Value.int .i64)).toArray.toList.drop (off + (zs.map (Value.int .i64)).length))) = (spl ws off zs).map (Value.int .i64) := by simp [spl]
  rw [e]
  have hl : (spl ws off zs).length = N := by rw [spl_length _ _ _ hfit, hN]
  have := own_of_block (base := base) (setRow_heap w g _ ((spl ws off zs).map (Value.int .i64)).toArray 3 _ hg) hbg (by rw [hl]; exact hmx)
  rw [hl] at this
  exact ⟨this, rfl, rfl, rfl, by simp [World.setRow], fun k _ hk => setRow_other w g k _ (fun e => hk (by simp [e]))⟩
theorem rd_cells {w : World} {sp : Option Addr} {sLen sCap : Nat} {zs : List Int} (hr : Rd w (.slice sp sLen sCap) zs) (h0 : 0 < zs.length) : sLen = zs.length ∧ ∃ ad, sp = some ad ∧ ∀ j y, (zs.map (Value.int .i64))[j]? = some y → w.cell? (ad.add j) = some y := by
  obtain ⟨a', cap', hv, _, _, h3⟩ := hr
  simp only [Value.slice.injEq] at hv
  obtain ⟨rfl, rfl, rfl⟩ := hv
  refine ⟨rfl, ?_⟩
  rcases h3 with h3 | ⟨b, off, rfl, _, hc⟩
  · rw [h3] at h0; simp at h0
  · refine ⟨_, rfl, fun j y hj => ?_⟩
    have hjl : j < zs.length := by simpa using (List.getElem?_eq_some_iff.1 hj).1
    have hadd : (⟨b, off, none⟩ : Addr).add j = ⟨b, off + j, none⟩ := by unfold Addr.add; split <;> simp_all
    rw [hadd, hc j hjl]
    rw [List.getElem?_map, List.getElem?_eq_getElem hjl] at hj
    simp only [Option.map_some, Option.some.injEq] at hj
    rw [← hj, List.getD_eq_getElem?_getD, List.getElem?_eq_getElem hjl, Option.getD_some]
/-- 'copy(out[off:], p)', out a list of the call's own, p not longer than what is there. -/
theorem wpList_copy_at {w : World} {ops : Array Oper} {rest : List Oper} {o : Oper} {a : Act} {Q : Exit → Act → World → Prop} (hgd : o.guard = none) (d s : Operand)
    (ho : o.op = .call { callee := .builtin .copy, args := #[d, s], argTypes := #[22, 22] })
    (base g N off dLen dCap sLen sCap : Nat) (sp : Option Addr) (ws zs : List Int) (hd : a.eval d = .slice (some ⟨g, off, none⟩) dLen dCap) (hs : a.eval s = .slice sp sLen sCap)
    (hown : Own w base (.slice (some ⟨g, 0, none⟩) N N) ws) (hr : Rd w (.slice sp sLen sCap) zs) (h0 : 0 < zs.length) (hdl : zs.length ≤ dLen) (hfit : off + zs.length ≤ ws.length)
    (h : ∀ w', Own w' base (.slice (some ⟨g, 0, none⟩) N N) (spl ws off zs) → w.grownBy w' (some g) → wpList Tryd.prog ops Q rest (a.put o.dst (goInt zs.length)) w') : wpList Tryd.prog ops Q (o :: rest) a w := by
  obtain ⟨rfl, ad, rfl, hc⟩ := rd_cells hr h0
  have hN : ws.length = N := by
    rcases hown.2 with ⟨h', _⟩ | ⟨g', cap', cur, h', _⟩
    · simp at h'
    · simp at h'; exact h'.2.1.symm
  have hg := own_full (by unfold Own at hown; rwa [hN] at hown)
  refine wpList_copy_own (w := w) hgd d s 22 22 ho 3 Tryd.underlying22 infoSize g off dLen dCap ad zs.length sCap hd hs (ws.map (Value.int .i64)).toArray 3 hg (zs.map (Value.int .i64)) (by rw [List.length_map]; exact (Nat.min_eq_left hdl).symm) hc (by simp; omega) (ints_oneCell _ _) ?_
  obtain ⟨h1, h2⟩ := own_setRow hown hfit
  have := h _ h1 h2
  simp only [List.length_map] at this ⊢
  exact this
theorem step_copy_at {w : World} {ops : Array Oper} {o : Oper} {a : Act} {K : Act → World → Prop} {Q : Exit → Act → World → Prop} {E : Prop} (hgd : o.guard = none) (d s : Operand)
    (ho : o.op = .call { callee := .builtin .copy, args := #[d, s], argTypes := #[22, 22] })
    (base g N off dLen dCap sLen sCap : Nat) (sp : Option Addr) (ws zs : List Int) (hd : a.eval d = .slice (some ⟨g, off, none⟩) dLen dCap) (hs : a.eval s = .slice sp sLen sCap)
    (hown : Own w base (.slice (some ⟨g, 0, none⟩) N N) ws) (hr : Rd w (.slice sp sLen sCap) zs) (h0 : 0 < zs.length) (hdl : zs.length ≤ dLen) (hfit : off + zs.length ≤ ws.length)
    (h : ∀ w', Own w' base (.slice (some ⟨g, 0, none⟩) N N) (spl ws off zs) → w.grownBy w' (some g) → K (a.put o.dst (goInt zs.length)) w') :
    if Region.wanted o (yielded ops a.tmps) = true then Oper.wp Tryd.prog o a w K Q else E := by
  have hw : Region.wanted o (yielded ops a.tmps) = true := by simp [Region.wanted, hgd]
  rw [if_pos hw]
  obtain ⟨rfl, ad, rfl, hc⟩ := rd_cells hr h0
  have hN : ws.length = N := by
    rcases hown.2 with ⟨h', _⟩ | ⟨g', cap', cur, h', _⟩
    · simp at h'
    · simp at h'; exact h'.2.1.symm
  have hg := own_full (by unfold Own at hown; rwa [hN] at hown)
  have hrun := run_copy_row (P := Tryd.prog) w 22 22 o.type 3 g off dLen dCap ad zs.length sCap (ws.map (Value.int .i64)).toArray 3 (zs.map (Value.int .i64)) Tryd.underlying22 infoSize hg (by rw [List.length_map]; exact (Nat.min_eq_left hdl).symm) hc (by simp; omega) (ints_oneCell _ _)
  obtain ⟨h1, h2⟩ := own_setRow hown hfit
  have := h _ h1 h2
  unfold Oper.wp
  simp [execOp, ho, resolve, invoke, builtin, hd, hs, hrun, Result.andThen]
  simp at this
  exact this
end Go.Proofs.YtogopakmebiomaaDoor
