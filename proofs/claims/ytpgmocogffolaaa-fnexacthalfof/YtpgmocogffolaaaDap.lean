/-
  'append' to a new, empty row, as one step of a statement that leaves its order open: rows of texts, rows of Booleans. No condition; no call is walked here.
-/
import Derived.Test.YtpgmocogffolaaaDhl
import Derived.Deep.AppendLies
namespace Go.Proofs.Ytpgmocogffolaaa
open Go.RowKit
set_option linter.unusedVariables false

theorem step_app0 {W : World} {ops : Array Oper} {o : Oper} {a : Act} {K : Act → World → Prop} {Q : Exit → Act → World → Prop} {E : Prop} (hgd : o.guard = none) (s x : Operand) (t e : TypeId)
    (ho : o.op = .call { callee := .builtin .append, args := #[s, x], argTypes := #[t, t] }) (i : TypeInfo) (z : Value) (bytes : Nat) (ht : Try.prog.underlying t = some (.slice e)) (hi : Try.prog.info? e = some i) (hz : i.zero = some z)
    (hsize : i.size = 1) (hby : i.bytes = bytes) (hzs : z.cells.size = 1) (hb16 : bytes ≤ 16)
    (gs : Nat) (hs : a.eval s = .slice (some ⟨gs, 0, none⟩) 0 0) (ad : Addr) (m c : Nat) (news : List Value) (hx : a.eval x = .slice (some ad) m c) (hl : news.length = m) (hnews : ∀ j u, news[j]? = some u → W.cell? (ad.add j) = some u)
    (hm : 0 < m) (hn : m ≤ 24)
    (h : ∀ v' w', w'.ownsRow W.heap.size e 1 v' m news → Below W.heap.size W w' → K (a.put o.dst v') w') :
    if Region.wanted o (yielded ops a.tmps) = true then Oper.wp Try.prog o a W K Q else E := by
  have hw : Region.wanted o (yielded ops a.tmps) = true := by simp [Region.wanted, hgd]
  rw [if_pos hw]
  have h63 : 0 + m ≤ maxLen := by unfold maxLen; omega
  have hfit : Builtin.nextslicecap (0 + m) 0 * i.bytes ≤ 281474976710656 := by
    refine growslice_fits (by omega) ?_
    rw [hby]
    have h2 : (0 + m) * bytes ≤ 24 * 16 := Nat.mul_le_mul (by omega) hb16
    omega
  have hr := run_append_grow (P := Try.prog) W t o.type e i z ht hi hz ⟨gs, 0, none⟩ 0 0 [] (by simp) (fun j v hv => by simp at hv) ad m c news (by rw [hsize, Nat.mul_one]; exact hl) hnews (by omega) (by omega) hfit
  have hge := grownCap_ge W (0 + m) 0 e
  have hcm : grownCap W (0 + m) 0 e ≤ maxLen := grownCap_le_maxLen W (0 + m) 0 e h63
  rw [Nat.zero_add] at hr hge hcm
  unfold Oper.wp execOp
  simp only [ho, resolve, invoke, builtin, Sem.run_bind, Sem.run_pure, Result.andThen_ok, List.map_toArray, List.map_cons, List.map_nil, hs, hx, hr]
  refine h _ _ ⟨by rw [hl, Nat.mul_one], .inr ⟨W.heap.size, _, _, rfl, Nat.le_refl _, heap_alloc_new W.drew _, hge, hcm, ?_, ?_⟩⟩ ((Below.refl _ _).drew.alloc (by show _ ≤ W.heap.size; exact Nat.le_refl _) _)
  · simp only [Array.size_append, List.size_toArray, size_zeroCells, hzs, hl, List.length_nil]
    omega
  · simp only [Array.toList_append, List.nil_append, Nat.mul_one]
    rw [← hl]
    exact List.take_left

theorem step_app_txt {W : World} {ops : Array Oper} {o : Oper} {a : Act} {K : Act → World → Prop} {Q : Exit → Act → World → Prop} {E : Prop} (hgd : o.guard = none) (s x : Operand)
    (ho : o.op = .call { callee := .builtin .append, args := #[s, x], argTypes := #[22, 22] }) (gs : Nat) (hs : a.eval s = .slice (some ⟨gs, 0, none⟩) 0 0) (v : Value) (hx : a.eval x = v) (xs : List ByteArray) (hr : RdT W v xs) (hm : 0 < xs.length) (hn : xs.length ≤ 24)
    (h : ∀ v' w', OwnT w' W.heap.size v' xs → Below W.heap.size W w' → K (a.put o.dst v') w') :
    if Region.wanted o (yielded ops a.tmps) = true then Oper.wp Try.prog o a W K Q else E := by
  obtain ⟨i0, hi, hz0, hz1, hz2⟩ := info_parts infoStr
  obtain ⟨ad, cap, rfl, h1, h2, h4, h3⟩ := hr
  rcases h3 with h3 | ⟨b, off, rfl, hlt, hc⟩
  · subst h3; simp at hm
  refine step_app0 hgd s x 22 9 ho i0 (.string ⟨#[]⟩) 16 Try.underlying22 hi hz0 hz1 hz2 rfl (by omega) gs hs ⟨b, off, none⟩ xs.length cap (xs.map Value.string) hx (by simp) ?_ hm hn h
  intro j u hu
  have hjl : j < xs.length := by simpa using (List.getElem?_eq_some_iff.1 hu).1
  have hadd : (⟨b, off, none⟩ : Addr).add j = ⟨b, off + j, none⟩ := by unfold Addr.add; split <;> simp_all
  rw [hadd, hc j hjl]
  rw [List.getElem?_map, List.getElem?_eq_getElem hjl] at hu
  simp only [Option.map_some, Option.some.injEq] at hu
  rw [← hu, List.getD_eq_getElem?_getD, List.getElem?_eq_getElem hjl, Option.getD_some]
theorem step_app_bol {W : World} {ops : Array Oper} {o : Oper} {a : Act} {K : Act → World → Prop} {Q : Exit → Act → World → Prop} {E : Prop} (hgd : o.guard = none) (s x : Operand)
    (ho : o.op = .call { callee := .builtin .append, args := #[s, x], argTypes := #[23, 23] }) (gs : Nat) (hs : a.eval s = .slice (some ⟨gs, 0, none⟩) 0 0) (v : Value) (hx : a.eval x = v) (xs : List Bool) (hr : RdZ W v xs) (hm : 0 < xs.length) (hn : xs.length ≤ 24)
    (h : ∀ v' w', OwnZ w' W.heap.size v' xs → Below W.heap.size W w' → K (a.put o.dst v') w') :
    if Region.wanted o (yielded ops a.tmps) = true then Oper.wp Try.prog o a W K Q else E := by
  obtain ⟨i0, hi, hz0, hz1, hz2⟩ := info_parts infoBol
  obtain ⟨ad, cap, rfl, h1, h2, h3⟩ := hr
  rcases h3 with h3 | ⟨b, off, rfl, hlt, hc⟩
  · subst h3; simp at hm
  refine step_app0 hgd s x 23 4 ho i0 (.bool false) 1 Try.underlying23 hi hz0 hz1 hz2 rfl (by omega) gs hs ⟨b, off, none⟩ xs.length cap (xs.map Value.bool) hx (by simp) ?_ hm hn h
  intro j u hu
  have hjl : j < xs.length := by simpa using (List.getElem?_eq_some_iff.1 hu).1
  have hadd : (⟨b, off, none⟩ : Addr).add j = ⟨b, off + j, none⟩ := by unfold Addr.add; split <;> simp_all
  rw [hadd, hc j hjl]
  rw [List.getElem?_map, List.getElem?_eq_getElem hjl] at hu
  simp only [Option.map_some, Option.some.injEq] at hu
  rw [← hu, List.getD_eq_getElem?_getD, List.getElem?_eq_getElem hjl, Option.getD_some]
end Go.Proofs.Ytpgmocogffolaaa
