/-
  What the law of bodies asks of the mathematics: a text comes back from its pieces and from its sectors, and not where one of them lies elsewhere; and the laws' comparing of texts, call by call. Each fact says what it asks.
-/
import Derived.Test.YtpmeidfobhhakaaDrE
namespace Go.Proofs.Ytpmeidfobhhakaa
open Go.RowKit
set_option linter.unusedVariables false

theorem pcs_getD (S : ByteArray) (n i : Nat) (h : i < n) : (pcs S n).getD i ⟨#[]⟩ = pc S i := by simp [pcs, h]
theorem fl_pcs (S : ByteArray) (n : Nat) : fl (pcs S n) = (bs S).take (16 * n) := by
  induction n with
  | zero => simp [pcs, fl]
  | succ n ih =>
    have e1 : fl (pcs S n ++ [pc S n]) = fl (pcs S n) ++ bs (pc S n) := by simp [fl]
    have e2 : bs (pc S n) = ((bs S).drop (16 * n)).take 16 := bs_ofN (fun b hb => bs_lt S b (List.mem_of_mem_drop (List.mem_of_mem_take hb)))
    rw [pcs_succ, e1, ih, e2, show 16 * (n + 1) = 16 * n + 16 by omega, List.take_add]
theorem join_spl (S : ByteArray) (h : (splR S).2 = true) : jnbR (splR S).1 = (S, true) := by
  have hg : 1 ≤ S.size ∧ S.size ≤ 160 := by
    by_cases hg : 1 ≤ S.size ∧ S.size ≤ 160
    · exact hg
    · unfold splR at h
      rw [if_neg hg] at h
      cases h
  have er : splR S = (pcs S (many S), true) := if_pos hg
  rw [er]
  have hm : many S = (S.size + 15) / 16 := rfl
  have hok : joinOk (pcs S (many S)) := by
    refine ⟨⟨by rw [pcs_length]; omega, by rw [pcs_length]; omega⟩, fun i hi => ?_⟩
    rw [pcs_length] at hi
    unfold gd
    rw [pcs_length, pcs_getD S _ i hi, pc_size]
    omega
  show jnbR (pcs S (many S)) = _
  unfold jnbR
  rw [if_pos hok, fl_pcs, List.take_of_length_le (by rw [bs_length]; omega), ofN_bs]
theorem spl_pos (S : ByteArray) (h : (splR S).2 = true) : 1 ≤ (splR S).1.length := by
  by_cases hg : 1 ≤ S.size ∧ S.size ≤ 160
  · have er : splR S = (pcs S (many S), true) := if_pos hg
    rw [er]
    show 1 ≤ (pcs S (many S)).length
    rw [pcs_length]
    unfold many
    omega
  · unfold splR at h
    rw [if_neg hg] at h
    cases h
theorem plc_small (p : Int) (i : Nat) (h : -1 ≤ p ∧ p ≤ 60001) (hi : i ≤ 100) : plc p i = p + (i : Int) := by
  unfold plc wrap64
  omega
theorem fa_yes {k p l : Int} {s : ByteArray} (h : (faR k p l s).2 = true) : ((splR s).2 = true ∧ allOk k p l (splR s).1) ∧ (faR k p l s).1 = secs k p l (splR s).1 := by
  by_cases hc : (splR s).2 = true ∧ allOk k p l (splR s).1
  · exact ⟨hc, by unfold faR; rw [if_pos hc]⟩
  · unfold faR at h
    rw [if_neg hc] at h
    cases h
theorem fr_good {k p l : Int} {b : ByteArray} (h : (frR k p l b).2 = true) : goodF k p l b.size := by
  by_cases hg : goodF k p l b.size
  · exact hg
  · unfold frR at h
    rw [if_neg hg] at h
    cases h
/-- A sector that was framed is read as it was framed, where its place is asked. -/
theorem ck_sec {k p l : Int} {ys : List ByteArray} (i : Nat) (h : (sec k p l ys i).2 = true) : ckR (sec k p l ys i).1 k (plc p i) l = ⟨k, plc p i, l, ys.getD i ⟨#[]⟩, 0, true⟩ := by
  have hr := rd_fr (fr_good h)
  have hr' : rdR (sec k p l ys i).1 = ⟨k, plc p i, l, ys.getD i ⟨#[]⟩, 0, true⟩ := hr
  unfold ckR
  rw [hr']
  simp
theorem ck_far {k p l : Int} {ys : List ByteArray} (i : Nat) (q : Int) (h : (sec k p l ys i).2 = true) (hq : ¬ plc p i = q) : ckR (sec k p l ys i).1 k q l = frNo 4 := by
  have hr := rd_fr (fr_good h)
  have hr' : rdR (sec k p l ys i).1 = ⟨k, plc p i, l, ys.getD i ⟨#[]⟩, 0, true⟩ := hr
  unfold ckR
  rw [hr']
  simp [hq]
theorem ra_fa {k p l : Int} {s : ByteArray} (h : (faR k p l s).2 = true) : raR (faR k p l s).1 k p l = (s, 0, true) := by
  obtain ⟨⟨hs, hall⟩, he⟩ := fa_yes h
  obtain ⟨hn, _⟩ := splR_facts s
  have hj := join_spl s hs
  have h1 : 1 ≤ (splR s).1.length := spl_pos s hs
  rw [he]
  have hck : ∀ i, i < (splR s).1.length → cks (secs k p l (splR s).1) k p l i = ⟨k, plc p i, l, (splR s).1.getD i ⟨#[]⟩, 0, true⟩ := by
    intro i hi
    unfold cks
    rw [secs_getD k p l _ i hi]
    exact ck_sec i (hall i hi)
  have hb : bds (secs k p l (splR s).1) k p l = (splR s).1 := by
    apply List.ext_getElem
    · rw [bds_length, secs_length]
    · intro i h1 h2
      have := bds_getD (secs k p l (splR s).1) k p l i (by rw [secs_length]; exact h2)
      rw [List.getD_eq_getElem?_getD, List.getElem?_eq_getElem h1, hck i h2] at this
      simp only [Option.getD_some] at this
      rw [this, List.getD_eq_getElem?_getD, List.getElem?_eq_getElem h2]
      rfl
  rw [ra_end (by rw [secs_length]; exact ⟨h1, hn⟩) (fun j hj => by rw [secs_length] at hj; rw [hck j hj]), hb, hj]
  rfl
theorem ra_turned {k p l : Int} {s : ByteArray} (h : (faR k p l s).2 = true) (hp : -1 ≤ p ∧ p ≤ 60001) (j : Nat) (hj : j + 1 < (faR k p l s).1.length) :
    raR ((faR k p l s).1.set j ((faR k p l s).1.getD (j + 1) ⟨#[]⟩)) k p l = (⟨#[]⟩, 4, false) := by
  obtain ⟨⟨hs, hall⟩, he⟩ := fa_yes h
  obtain ⟨hn, _⟩ := splR_facts s
  rw [he] at hj ⊢
  rw [secs_length] at hj
  have hl : ((secs k p l (splR s).1).set j ((secs k p l (splR s).1).getD (j + 1) ⟨#[]⟩)).length = (splR s).1.length := by rw [List.length_set, secs_length]
  have hb : cks ((secs k p l (splR s).1).set j ((secs k p l (splR s).1).getD (j + 1) ⟨#[]⟩)) k p l j = frNo 4 := by
    unfold cks
    rw [List.getD_eq_getElem?_getD, List.getElem?_set_self (by rw [secs_length]; omega), Option.getD_some, secs_getD k p l _ (j + 1) hj]
    refine ck_far (j + 1) (plc p j) (hall (j + 1) hj) ?_
    rw [plc_small p (j + 1) hp (by omega), plc_small p j hp (by omega)]
    omega
  have hg : ∀ i, i < j → (cks ((secs k p l (splR s).1).set j ((secs k p l (splR s).1).getD (j + 1) ⟨#[]⟩)) k p l i).ok = true := by
    intro i hi
    unfold cks
    rw [List.getD_eq_getElem?_getD, List.getElem?_set_ne (by omega), ← List.getD_eq_getElem?_getD, secs_getD k p l _ i (by omega), ck_sec i (hall i (by omega))]
  rw [ra_bad (by rw [hl]; omega) j (by rw [hl]; omega) hg (by rw [hb]; rfl), hb]
  rfl

set_option maxRecDepth 100000 in
set_option maxHeartbeats 400000 in
theorem sameTexts_same (v1 v2 : Value) (xs : List ByteArray) (w : World) (h1 : RdT w v1 xs) (h2 : RdT w v2 xs) :
    Calls Try.prog 16 #[v1, v2] w fun e w' => e = .returned (.bool true) ∧ Below w.heap.size w w' := by
  obtain ⟨a1, c1, rfl, _, m1, _, k1⟩ := h1
  obtain ⟨a2, c2, rfl, _, _, _, k2⟩ := h2
  have hm : xs.length ≤ maxLen := by omega
  unfold maxLen at hm
  have K := hide k1
  have L := hide k2
  clear k1 k2 m1
  go_enter Try.func16, Try.ntmps16
  go_wp2
  go_loopw [13] (fun vi wr => ∃ k : Nat, k ≤ xs.length ∧ vi = .int .i64 k ∧ Below w.heap.size w wr) (fun vi _ => xs.length - (intOf vi).toNat)
  case atStart => exact ⟨0, Nat.zero_le _, rfl, Below.refl _ _⟩
  case round =>
    obtain ⟨k, hk, rfl, hb⟩ := hrel
    by_cases hlt : k < xs.length
    · rcases K.out with h3 | ⟨b, off, rfl, hbs, hc⟩
      · subst h3; simp at hlt
      rcases L.out with h3 | ⟨b', off', rfl, hbs', hc'⟩
      · subst h3; simp at hlt
      have e1 : wr.cell? ⟨b, off + k, none⟩ = some (.string (xs.getD k ⟨#[]⟩)) := (hb.cell (by exact hbs)).trans (hc k hlt)
      have e2 : wr.cell? ⟨b', off' + k, none⟩ = some (.string (xs.getD k ⟨#[]⟩)) := (hb.cell (by exact hbs')).trans (hc' k hlt)
      have hlt' : (k : Int) < (xs.length : Int) := by omega
      clear hc hc'
      generalize xs.getD k ⟨#[]⟩ = z at e1 e2
      go_wp2
      go_quiet (fail)
      go_wp2
      go_roundw
      case rel => exact ⟨k + 1, by omega, by go_num, below_drewN hb _⟩
      case measure => simp [intOf]; omega
    · obtain rfl : k = xs.length := by omega
      go_wp2
      go_ret
      exact ⟨rfl, hb⟩

/-- 'append(out, p...)', out the call's own and empty, p whatever reads as these texts. -/
theorem wpList_append_texts {w : World} {ops : Array Oper} {rest : List Oper} {o : Oper} {a : Act} {Q : Exit → Act → World → Prop} (hgd : o.guard = none) (s x : Operand)
    (ho : o.op = .call { callee := .builtin .append, args := #[s, x], argTypes := #[22, 22] })
    (base : Nat) (v : Value) (n : Nat) (xs zs : List ByteArray) (hs : a.eval s = v) (hown : w.ownsRow base 9 1 v n (xs.map Value.string)) (u : Value) (hx : a.eval x = u) (hr : RdT w u zs)
    (hm : n + zs.length ≤ 1073741824) (hbase : base ≤ w.heap.size)
    (h : ∀ v' w', OwnT w' base v' (xs ++ zs) → w.grownBy w' v.ownBlock → wpList Try.prog ops Q rest (a.put o.dst v') w') : wpList Try.prog ops Q (o :: rest) a w := by
  obtain ⟨i0, hi, hz0, hz1, hz2⟩ := info_parts infoStr
  have hxn : xs.length = n := by have := hown.1; simpa using this
  obtain ⟨ad, cap, rfl, h1, ⟨h2, h2'⟩, h4, h3⟩ := hr
  cases ad with
  | none =>
    have hz : zs = [] := by
      rcases h3 with h3 | ⟨b, off, hb, _⟩
      · exact h3
      · cases hb
    subst hz
    obtain rfl := h2' rfl
    refine wpList_append_own_none hgd s x _ ho base _ i0 1 Try.underlying22 hi v n _ hs hown hx ?_
    refine h v w ?_ (World.grownBy.refl _ _)
    rw [List.append_nil]
    show World.ownsRow _ _ _ _ _ xs.length _
    rw [hxn]
    exact hown
  | some ad =>
    refine wpList_append_own (w := w) hgd s x _ ho base _ i0 (.string ⟨#[]⟩) 1 16 Try.underlying22 hi hz0 hz1 hz2 rfl (by decide) v n _ hs hown ad zs.length cap (zs.map Value.string) hx (by simp) ?_ (strs_oneCell _) (by unfold maxLen; omega) (by omega) hbase ?_
    · intro j y hj
      have hjl : j < zs.length := by simpa using (List.getElem?_eq_some_iff.1 hj).1
      rcases h3 with h3 | ⟨b, off, hb, _, hc⟩
      · subst h3; simp at hjl
      obtain rfl := Option.some.inj hb
      have hadd : (⟨b, off, none⟩ : Addr).add j = ⟨b, off + j, none⟩ := by unfold Addr.add; split <;> simp_all
      rw [hadd, hc j hjl]
      rw [List.getElem?_map, List.getElem?_eq_getElem hjl] at hj
      simp only [Option.map_some, Option.some.injEq] at hj
      rw [← hj, List.getD_eq_getElem?_getD, List.getElem?_eq_getElem hjl, Option.getD_some]
    · intro v' w' ho' hg' _
      refine h v' w' ?_ hg'
      show World.ownsRow _ _ _ _ _ (xs ++ zs).length _
      rw [List.map_append, List.length_append, hxn]
      exact ho'
end Go.Proofs.Ytpmeidfobhhakaa
