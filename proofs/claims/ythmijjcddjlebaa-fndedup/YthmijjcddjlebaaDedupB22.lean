/-
  The law of recipes, over drawn bytes: the call returns true, and nothing that was there is written. No condition.
-/
import Derived.Test.YthmijjcddjlebaaDedupB21
import Derived.Test.YthmijjcddjlebaaDedupB7
namespace Go.Proofs.Ythmijjcddjlebaa
open Go.RowKit
set_option linter.unusedVariables false

theorem mem_sz {xs : List ByteArray} {n m : Nat} (h : ∀ i, i < xs.length → (xs.getD i ⟨#[]⟩).size ≤ n) (hm : n ≤ m) : ∀ s ∈ xs, s.size ≤ m := fun s hs => by
  obtain ⟨i, hi, e⟩ := List.getElem_of_mem hs
  have := h i hi
  rw [List.getD_eq_getElem?_getD, List.getElem?_eq_getElem hi, Option.getD_some, e] at this
  omega
theorem ded_cases (xs : List ByteArray) : (dedR xs = ([], [], false) ∧ savR xs = (0, 0, false)) ∨ (dedOk xs ∧ dedR xs = ((dedF xs).1, (dedF xs).2, true) ∧ savR xs = (((fl9 xs).length : Int), ((fl9 (dedF xs).1).length : Int), true)) := by
  by_cases h : dedOk xs
  · exact .inr ⟨h, if_pos h, if_pos h⟩
  · exact .inl ⟨if_neg h, if_neg h⟩
theorem ded_again (xs : List ByteArray) (h : dedOk xs) : dedR (xs ++ xs) = ([], [], false) ∨ ∃ V, dedR (xs ++ xs) = ((dedF xs).1, V, true) := by
  by_cases h2 : dedOk (xs ++ xs)
  · right
    refine ⟨(dedF (xs ++ xs)).2, ?_⟩
    rw [← ded_twice xs h]
    exact if_pos h2
  · exact .inl (if_neg h2)
structure DedFacts (xs C : List ByteArray) (U : List (List Int)) : Prop where
  back : ∀ i, i < xs.length → rebR C U (i : Int) = (xs.getD i ⟨#[]⟩, true)
  un : unlike9 C
  len : U.length = xs.length
  cnt : C.length ≤ 2400
  twice : dedR (xs ++ xs) = ([], [], false) ∨ ∃ V, dedR (xs ++ xs) = (C, V, true)
theorem ded_facts (xs : List ByteArray) (h : dedOk xs) : DedFacts xs (dedF xs).1 (dedF xs).2 :=
  ⟨reb_back xs h, nodup_unlike (rec9_all xs h).un, (rec9_all xs h).len, (ded_sizes xs h).1, ded_again xs h⟩
/-- 'append(out, p...)', out the call's own, p whatever reads as these texts. -/
theorem wpList_append_texts9 {w : World} {ops : Array Oper} {rest : List Oper} {o : Oper} {a : Act} {Q : Exit → Act → World → Prop} (hgd : o.guard = none) (s x : Operand)
    (ho : o.op = .call { callee := .builtin .append, args := #[s, x], argTypes := #[23, 23] })
    (base : Nat) (v : Value) (n : Nat) (xs zs : List ByteArray) (hs : a.eval s = v) (hown : w.ownsRow base 9 1 v n (xs.map Value.string)) (u : Value) (hx : a.eval x = u) (hr : RdT w u zs)
    (hm : n + zs.length ≤ 1073741824) (hbase : base ≤ w.heap.size)
    (h : ∀ v' w', OwnT w' base v' (xs ++ zs) → w.grownBy w' v.ownBlock → wpList Try.prog ops Q rest (a.put o.dst v') w') : wpList Try.prog ops Q (o :: rest) a w := by
  obtain ⟨i0, hi, hz0, hz1, hz2⟩ := info_parts infoStr
  have hxn : xs.length = n := by have := hown.1; simpa using this
  obtain ⟨ad, cap, rfl, h1, ⟨h2, h2'⟩, h4, h3⟩ := hr
  cases ad with
  | none =>
    have hz : zs = [] := by
      rcases h3 with h3 | ⟨b, off, hb, _⟩
      · exact h3
      · cases hb
    subst hz
    obtain rfl := h2' rfl
    refine wpList_append_own_none hgd s x _ ho base _ i0 1 Try.underlying23 hi v n _ hs hown hx ?_
    refine h v w ?_ (World.grownBy.refl _ _)
    rw [List.append_nil]
    show World.ownsRow _ _ _ _ _ xs.length _
    rw [hxn]
    exact hown
  | some ad =>
    refine wpList_append_own (w := w) hgd s x _ ho base _ i0 (.string ⟨#[]⟩) 1 16 Try.underlying23 hi hz0 hz1 hz2 rfl (by decide) v n _ hs hown ad zs.length cap (zs.map Value.string) hx (by simp) ?_ (strs_oneCell _) (by unfold maxLen; omega) (by omega) hbase ?_
    · intro j y hj
      have hjl : j < zs.length := by simpa using (List.getElem?_eq_some_iff.1 hj).1
      rcases h3 with h3 | ⟨b, off, hb, _, hc⟩
      · subst h3; simp at hjl
      obtain rfl := Option.some.inj hb
      have hadd : (⟨b, off, none⟩ : Addr).add j = ⟨b, off + j, none⟩ := by unfold Addr.add; split <;> simp_all
      rw [hadd, hc j hjl]
      rw [List.getElem?_map, List.getElem?_eq_getElem hjl] at hj
      simp only [Option.map_some, Option.some.injEq] at hj
      rw [← hj, List.getD_eq_getElem?_getD, List.getElem?_eq_getElem hjl, Option.getD_some]
    · intro v' w' ho' hg' _
      refine h v' w' ?_ hg'
      show World.ownsRow _ _ _ _ _ (xs ++ zs).length _
      rw [List.map_append, List.length_append, hxn]
      exact ho'

set_option maxRecDepth 100000 in
set_option maxHeartbeats 12800000 in
theorem fnDedup_walk (a : Option Addr) (len cap : Nat) (a' : Option Addr) (len' cap' : Nat) (w : World) (h0 : RdB w (.slice a len cap)) (h1 : RdB w (.slice a' len' cap')) (b0 : len ≤ 140737488351232) (b1 : len' ≤ 140737488351232) :
    Calls Try.prog 3 #[.slice a len cap, .slice a' len' cap'] w fun e w' => e = .returned (.bool true) ∧ Below w.heap.size w w' := by
  by_cases hbig : (len : Int) + (len' : Int) ≤ 1048576
  case neg =>
    have h' : (1048576 : Int) < (len : Int) + (len' : Int) := by omega
    go_enter Try.func3, Try.ntmps3
    go_wp2
    go_ret
    exact ⟨rfl, Below.refl _ _⟩
  have hbig' : ¬ (1048576 : Int) < (len : Int) + (len' : Int) := by omega
  have R0 := hide h0
  have R1 := hide h1
  clear h0 h1
  go_enter Try.func3, Try.ntmps3
  go_wp2_with fail
  refine (drawDedupAll_calls _ _ R0.out).mono ?_
  rintro e w1 ⟨v1, xs, rfl, o1, hx9, sx, b⟩
  obtain ⟨a1, c1, rfl⟩ := row_slice9 o1
  have SX : ∀ s ∈ xs, s.size ≤ maxLen := mem_sz sx.2 (by unfold maxLen; omega)
  have TX1 := hide (OwnT.rd o1 SX)
  have S1 := hide b
  have D1 := hide (fun v W h => dedupAll_calls v xs W h)
  have D2 := hide (fun v W h => sDedupAll_calls v xs W h)
  have D3 := hide (fun v W h => savedBy_calls v xs W h)
  have D4 := hide (fun v W h => sSavedBy_calls v xs W h)
  have L9 : Hid (∀ s ∈ xs, s.size ≤ maxLen) := SX
  clear o1 sx b SX
  rcases ded_cases xs with ⟨hz, hs⟩ | ⟨hok, hz, hs⟩
  case inl =>
    rw [hz] at D1 D2
    rw [hs] at D3 D4
    simp only at D1 D2 D3 D4
    generalize ([] : List ByteArray) = C at D1 D2
    generalize ([] : List (List Int)) = U at D1 D2
    clear hz hs
    go_wp2_with fail
    refine (D1.out _ _ TX1.out).mono ?_
    rintro e wc3 ⟨vc, vu, rfl, rc, ru, b, _⟩
    obtain ⟨ac, cc, rfl⟩ := rdT_slice9 rc
    obtain ⟨au, cu, rfl⟩ := rdM_slice9 ru
    have bb := below_box wc3 (.cells #[.slice ac C.length cc, .slice au U.length cu] 27)
    obtain ⟨w3, hw⟩ : ∃ u, u = wc3.alloc (.cells #[.slice ac C.length cc, .slice au U.length cu] 27) := ⟨_, rfl⟩
    obtain ⟨g3, hg⟩ : ∃ u, u = wc3.heap.size := ⟨_, rfl⟩
    have xx : Boxed2 w3 g3 27 (.slice ac C.length cc) (.slice au U.length cu) := by rw [hw, hg]; exact boxed2_new _ _ _ _
    rw [← hw] at bb
    have W3 : Hid (wc3.alloc (.cells #[.slice ac C.length cc, .slice au U.length cu] 27) = w3) := hw.symm
    have G3 : Hid (wc3.heap.size = g3) := hg.symm
    have X3 := hide xx
    have RC3 := hide (rc.below bb)
    have RU3 := hide (ru.below bb)
    have bt := b.trans (bb.mono b.size)
    clear bb b xx hw hg rc ru
    have S3 := hide (S1.out.trans (bt.mono S1.out.size))
    have TX3 := hide (TX1.out.below bt)
    clear bt S1 TX1
    go_upto_region 5 with fail
    rw [W3.out, G3.out]
    clear W3 G3
    go_wp2_with fail
    refine (D2.out _ _ TX3.out).mono ?_
    rintro e wc5 ⟨vp, vq, rfl, rp, rq, b⟩
    obtain ⟨ap, cp, rfl⟩ := rdT_slice9 rp
    obtain ⟨aq, cq, rfl⟩ := rdM_slice9 rq
    have bb := below_box wc5 (.cells #[.slice ap C.length cp, .slice aq U.length cq] 27)
    obtain ⟨w5, hw⟩ : ∃ u, u = wc5.alloc (.cells #[.slice ap C.length cp, .slice aq U.length cq] 27) := ⟨_, rfl⟩
    obtain ⟨g5, hg⟩ : ∃ u, u = wc5.heap.size := ⟨_, rfl⟩
    have xx : Boxed2 w5 g5 27 (.slice ap C.length cp) (.slice aq U.length cq) := by rw [hw, hg]; exact boxed2_new _ _ _ _
    rw [← hw] at bb
    have W5 : Hid (wc5.alloc (.cells #[.slice ap C.length cp, .slice aq U.length cq] 27) = w5) := hw.symm
    have G5 : Hid (wc5.heap.size = g5) := hg.symm
    have Y5 := hide xx
    have PC5 := hide (rp.below bb)
    have PU5 := hide (rq.below bb)
    have bt := b.trans (bb.mono b.size)
    clear bb b xx hw hg rp rq
    have S5 := hide (S3.out.trans (bt.mono S3.out.size))
    have TX5 := hide (TX3.out.below bt)
    have X5 := hide (boxed2_below X3.out bt)
    have RC5 := hide (RC3.out.below bt)
    have RU5 := hide (RU3.out.below bt)
    clear bt S3 TX3 X3 RC3 RU3
    go_upto_region 6 with fail
    rw [W5.out, G5.out]
    clear W5 G5
    go_wp2_with fail
    refine (D3.out _ _ TX5.out).mono ?_
    rintro e w6 ⟨rfl, b⟩
    have S6 := hide (S5.out.trans (b.mono S5.out.size))
    have TX6 := hide (TX5.out.below b)
    have X6 := hide (boxed2_below X5.out b)
    have RC6 := hide (RC5.out.below b)
    have RU6 := hide (RU5.out.below b)
    have Y6 := hide (boxed2_below Y5.out b)
    have PC6 := hide (PC5.out.below b)
    have PU6 := hide (PU5.out.below b)
    clear b S5 TX5 X5 RC5 RU5 Y5 PC5 PU5
    go_wp2_with fail
    refine (D4.out _ _ TX6.out).mono ?_
    rintro e w7 ⟨rfl, b⟩
    have S7 := hide (S6.out.trans (b.mono S6.out.size))
    have TX7 := hide (TX6.out.below b)
    have X7 := hide (boxed2_below X6.out b)
    have RC7 := hide (RC6.out.below b)
    have RU7 := hide (RU6.out.below b)
    have Y7 := hide (boxed2_below Y6.out b)
    have PC7 := hide (PC6.out.below b)
    have PU7 := hide (PU6.out.below b)
    clear b S6 TX6 X6 RC6 RU6 Y6 PC6 PU6
    have q0 := X7.out.c0
    have q1 := X7.out.c1
    have q2 := Y7.out.c0
    have q3 := Y7.out.c1
    go_wp2_with fail
    refine (sameRecipes_same _ _ _ _ C U _ RC7.out RU7.out PC7.out PU7.out).mono ?_
    rintro e w8 ⟨rfl, b⟩
    clear q0 q1 q2 q3
    have S8 := hide (S7.out.trans (b.mono S7.out.size))
    have TX8 := hide (TX7.out.below b)
    have X8 := hide (boxed2_below X7.out b)
    have RC8 := hide (RC7.out.below b)
    have RU8 := hide (RU7.out.below b)
    clear b S7 TX7 X7 RC7 RU7 Y7 PC7 PU7
    clear D1 D2 D3 D4
    go_wp2_with fail
    refine (drawRebuildText_calls _ _ (R1.out.below S8.out)).mono ?_
    rintro e wca ⟨vc8, vu8, C8, U8, n8, rfl, rc8, ru8, lC8, ln8, b8⟩
    obtain ⟨ac8, cc8, rfl⟩ := rdT_slice9 rc8
    obtain ⟨au8, cu8, rfl⟩ := rdM_slice9 ru8
    have bb := below_box wca (.cells #[.slice ac8 C8.length cc8, .slice au8 U8.length cu8] 27)
    obtain ⟨wa, hw⟩ : ∃ u, u = wca.alloc (.cells #[.slice ac8 C8.length cc8, .slice au8 U8.length cu8] 27) := ⟨_, rfl⟩
    obtain ⟨ga, hg⟩ : ∃ u, u = wca.heap.size := ⟨_, rfl⟩
    have xx : Boxed2 wa ga 27 (.slice ac8 C8.length cc8) (.slice au8 U8.length cu8) := by rw [hw, hg]; exact boxed2_new _ _ _ _
    rw [← hw] at bb
    have Wa : Hid (wca.alloc (.cells #[.slice ac8 C8.length cc8, .slice au8 U8.length cu8] 27) = wa) := hw.symm
    have Ga : Hid (wca.heap.size = ga) := hg.symm
    have Xa := hide xx
    have RCa := hide (rc8.below bb)
    have RUa := hide (ru8.below bb)
    have bt := b8.trans (bb.mono b8.size)
    clear bb b8 xx hw hg rc8 ru8
    have Sa := hide (S8.out.trans (bt.mono S8.out.size))
    clear bt S8
    go_upto_region 34 with fail
    rw [Wa.out, Ga.out]
    clear Wa Ga
    have q0 := Xa.out.c0
    have q1 := Xa.out.c1
    go_wp2_with fail
    refine (rebuildText_calls _ _ C8 U8 (n8 : Int) _ RCa.out RUa.out (by omega)).mono ?_
    rintro e wb ⟨rfl, b⟩
    clear q0 q1
    have Sb := hide (Sa.out.trans (b.mono Sa.out.size))
    have Xb := hide (boxed2_below Xa.out b)
    have RCb := hide (RCa.out.below b)
    have RUb := hide (RUa.out.below b)
    clear b Sa Xa RCa RUa
    have q0 := Xb.out.c0
    have q1 := Xb.out.c1
    generalize hrb : rebR C8 U8 (n8 : Int) = rb
    have HRB := hide hrb
    clear hrb
    obtain ⟨rb1, rb2⟩ := rb
    simp only
    go_wp2_with fail
    refine (sRebuildText_calls _ _ C8 U8 (n8 : Int) _ RCb.out RUb.out (by omega)).mono ?_
    rw [HRB.out]
    rintro e wcc ⟨rfl, b⟩
    clear q0 q1
    have Sc := hide (Sb.out.trans (b.mono Sb.out.size))
    clear b Sb Xb RCb RUb
    simp only
    go_wp2_with fail
    refine (drawJoinChunks_calls _ _ (R1.out.below Sc.out)).mono ?_
    rintro e wd ⟨vj, js, rfl, oj, lj, sj, b⟩
    obtain ⟨aj, cj, rfl⟩ := row_slice9 oj
    have JX : ∀ s ∈ js, s.size ≤ maxLen := mem_sz sj (by unfold maxLen; omega)
    have RJd := hide (OwnT.rd oj JX)
    have LJ : Hid (js.length ≤ 1048576) := by show _ ≤ _; omega
    have SJ : Hid (∀ i, i < js.length → (js.getD i ⟨#[]⟩).size ≤ 1048576) := fun i hi => by have := sj i hi; omega
    clear oj JX sj
    have Sd := hide (Sc.out.trans (b.mono Sc.out.size))
    clear b Sc
    go_wp2_with fail
    refine (joinChunks_calls _ js _ RJd.out LJ.out SJ.out).mono ?_
    rintro e we ⟨rfl, b⟩
    have Se := hide (Sd.out.trans (b.mono Sd.out.size))
    have RJe := hide (RJd.out.below b)
    clear b Sd RJd
    generalize hjr : jchR js = jr
    have HJR := hide hjr
    clear hjr
    obtain ⟨jr1, jr2⟩ := jr
    simp only
    go_wp2_with fail
    refine (sJoinChunks_calls _ js _ RJe.out LJ.out SJ.out).mono ?_
    rw [HJR.out]
    rintro e wf ⟨rfl, b⟩
    have Sf := hide (Se.out.trans (b.mono Se.out.size))
    have RJf := hide (RJe.out.below b)
    clear b Se RJe
    simp only
    clear HRB HJR
    go_wp2
    go_ret
    exact ⟨by simp, Sf.out⟩
  rw [hz] at D1 D2
  rw [hs] at D3 D4
  simp only at D1 D2 D3 D4
  have FS := ded_less xs hok
  have FA := hide (ded_facts xs hok)
  generalize dedF xs = D at D1 D2 D3 D4 FS FA
  obtain ⟨C, U⟩ := D
  simp only at D1 D2 D3 D4 FS FA
  generalize (fl9 xs).length = na at D3 D4 FS
  generalize (fl9 C).length = nk at D3 D4 FS
  have fs' : ¬ (na : Int) < (nk : Int) := by omega
  clear hz hs FS
  go_wp2_with fail
  refine (D1.out _ _ TX1.out).mono ?_
  rintro e wc3 ⟨vc, vu, rfl, rc, ru, b, _⟩
  obtain ⟨ac, cc, rfl⟩ := rdT_slice9 rc
  obtain ⟨au, cu, rfl⟩ := rdM_slice9 ru
  have bb := below_box wc3 (.cells #[.slice ac C.length cc, .slice au U.length cu] 27)
  obtain ⟨w3, hw⟩ : ∃ u, u = wc3.alloc (.cells #[.slice ac C.length cc, .slice au U.length cu] 27) := ⟨_, rfl⟩
  obtain ⟨g3, hg⟩ : ∃ u, u = wc3.heap.size := ⟨_, rfl⟩
  have xx : Boxed2 w3 g3 27 (.slice ac C.length cc) (.slice au U.length cu) := by rw [hw, hg]; exact boxed2_new _ _ _ _
  rw [← hw] at bb
  have W3 : Hid (wc3.alloc (.cells #[.slice ac C.length cc, .slice au U.length cu] 27) = w3) := hw.symm
  have G3 : Hid (wc3.heap.size = g3) := hg.symm
  have X3 := hide xx
  have RC3 := hide (rc.below bb)
  have RU3 := hide (ru.below bb)
  have bt := b.trans (bb.mono b.size)
  clear bb b xx hw hg rc ru
  have S3 := hide (S1.out.trans (bt.mono S1.out.size))
  have TX3 := hide (TX1.out.below bt)
  clear bt S1 TX1
  go_upto_region 5 with fail
  rw [W3.out, G3.out]
  clear W3 G3
  go_wp2_with fail
  refine (D2.out _ _ TX3.out).mono ?_
  rintro e wc5 ⟨vp, vq, rfl, rp, rq, b⟩
  obtain ⟨ap, cp, rfl⟩ := rdT_slice9 rp
  obtain ⟨aq, cq, rfl⟩ := rdM_slice9 rq
  have bb := below_box wc5 (.cells #[.slice ap C.length cp, .slice aq U.length cq] 27)
  obtain ⟨w5, hw⟩ : ∃ u, u = wc5.alloc (.cells #[.slice ap C.length cp, .slice aq U.length cq] 27) := ⟨_, rfl⟩
  obtain ⟨g5, hg⟩ : ∃ u, u = wc5.heap.size := ⟨_, rfl⟩
  have xx : Boxed2 w5 g5 27 (.slice ap C.length cp) (.slice aq U.length cq) := by rw [hw, hg]; exact boxed2_new _ _ _ _
  rw [← hw] at bb
  have W5 : Hid (wc5.alloc (.cells #[.slice ap C.length cp, .slice aq U.length cq] 27) = w5) := hw.symm
  have G5 : Hid (wc5.heap.size = g5) := hg.symm
  have Y5 := hide xx
  have PC5 := hide (rp.below bb)
  have PU5 := hide (rq.below bb)
  have bt := b.trans (bb.mono b.size)
  clear bb b xx hw hg rp rq
  have S5 := hide (S3.out.trans (bt.mono S3.out.size))
  have TX5 := hide (TX3.out.below bt)
  have X5 := hide (boxed2_below X3.out bt)
  have RC5 := hide (RC3.out.below bt)
  have RU5 := hide (RU3.out.below bt)
  clear bt S3 TX3 X3 RC3 RU3
  go_upto_region 6 with fail
  rw [W5.out, G5.out]
  clear W5 G5
  go_wp2_with fail
  refine (D3.out _ _ TX5.out).mono ?_
  rintro e w6 ⟨rfl, b⟩
  have S6 := hide (S5.out.trans (b.mono S5.out.size))
  have TX6 := hide (TX5.out.below b)
  have X6 := hide (boxed2_below X5.out b)
  have RC6 := hide (RC5.out.below b)
  have RU6 := hide (RU5.out.below b)
  have Y6 := hide (boxed2_below Y5.out b)
  have PC6 := hide (PC5.out.below b)
  have PU6 := hide (PU5.out.below b)
  clear b S5 TX5 X5 RC5 RU5 Y5 PC5 PU5
  go_wp2_with fail
  refine (D4.out _ _ TX6.out).mono ?_
  rintro e w7 ⟨rfl, b⟩
  have S7 := hide (S6.out.trans (b.mono S6.out.size))
  have TX7 := hide (TX6.out.below b)
  have X7 := hide (boxed2_below X6.out b)
  have RC7 := hide (RC6.out.below b)
  have RU7 := hide (RU6.out.below b)
  have Y7 := hide (boxed2_below Y6.out b)
  have PC7 := hide (PC6.out.below b)
  have PU7 := hide (PU6.out.below b)
  clear b S6 TX6 X6 RC6 RU6 Y6 PC6 PU6
  have q0 := X7.out.c0
  have q1 := X7.out.c1
  have q2 := Y7.out.c0
  have q3 := Y7.out.c1
  go_wp2_with fail
  refine (sameRecipes_same _ _ _ _ C U _ RC7.out RU7.out PC7.out PU7.out).mono ?_
  rintro e w8 ⟨rfl, b⟩
  clear q0 q1 q2 q3
  have S8 := hide (S7.out.trans (b.mono S7.out.size))
  have TX8 := hide (TX7.out.below b)
  have X8 := hide (boxed2_below X7.out b)
  have RC8 := hide (RC7.out.below b)
  have RU8 := hide (RU7.out.below b)
  clear b S7 TX7 X7 RC7 RU7 Y7 PC7 PU7
  clear D1 D2 D3 D4
  have hUL : U.length = xs.length := FA.out.len
  obtain ⟨m, hm⟩ : ∃ m, m = xs.length := ⟨_, rfl⟩
  have hm9 : m ≤ 9 := by omega
  have HM := hide hm
  rw [← hm]
  clear hm hUL
  go_wp2
  go_loopw [99] (fun vi wr => ∃ k : Nat, k ≤ m ∧ vi = .int .i64 k ∧ Below w8.heap.size w8 wr) (fun vi _ => m - (intOf vi).toNat)
  case atStart => exact ⟨0, Nat.zero_le _, rfl, Below.refl _ _⟩
  case round =>
    obtain ⟨k, hk, rfl, hb⟩ := hrel
    by_cases hlt : k < m
    · obtain ⟨_, _, ev, _, _, _, h3⟩ := TX8.out.below hb
      simp only [Value.slice.injEq] at ev
      obtain ⟨rfl, _, rfl⟩ := ev
      rcases h3 with h3 | ⟨bx, ox, rfl, _, hc⟩
      · have := HM.out; rw [h3] at this; simp at this; omega
      have hc1 := hc k (by rw [← HM.out]; exact hlt)
      have FB := hide (FA.out.back k (by rw [← HM.out]; exact hlt))
      generalize xs.getD k ⟨#[]⟩ = z at hc1 FB
      have hlt' : (k : Int) < (m : Int) := by omega
      have q0 := (boxed2_below X8.out hb).c0
      have q1 := (boxed2_below X8.out hb).c1
      have B := hide hb
      clear hc hb
      go_wp2_with fail
      refine (rebuildText_calls _ _ C U (k : Int) _ (RC8.out.below B.out) (RU8.out.below B.out) (by have := FA.out.cnt; omega)).mono ?_
      rw [FB.out]
      rintro e w9 ⟨rfl, b⟩
      have B2 := hide (B.out.trans (b.mono B.out.size))
      clear b hc1 q0 q1 B
      go_wp2
      go_roundw
      case rel => exact ⟨k + 1, by omega, by go_num, B2.out⟩
      case measure => simp [intOf]; omega
    obtain rfl : k = m := by omega
    have S9 := hide (S8.out.trans (hb.mono S8.out.size))
    have TX9 := hide (TX8.out.below hb)
    have X9 := hide (boxed2_below X8.out hb)
    have RC9 := hide (RC8.out.below hb)
    clear hb S8 TX8 X8 RC8 RU8
    have q0 := X9.out.c0
    have q1 := X9.out.c1
    obtain ⟨_, _, ev, hcc, _, _, h3⟩ := RC9.out
    simp only [Value.slice.injEq] at ev
    obtain ⟨rfl, _, rfl⟩ := ev
    obtain ⟨n, hn⟩ : ∃ n, n = C.length := ⟨_, rfl⟩
    have HN := hide hn
    have hn24 : n ≤ 2400 := by have := FA.out.cnt; omega
    have hcc' : n ≤ cc := by omega
    rw [← hn] at q0
    try rw [← hn]
    have H3 := hide h3
    clear h3 hcc hn
    go_wp2
    go_loop [121] (fun vi => ∃ k : Nat, k ≤ n ∧ vi = .int .i64 k) (fun vi => n - (intOf vi).toNat)
    case atStart => exact ⟨0, Nat.zero_le _, rfl⟩
    case round =>
      obtain ⟨i, hi, rfl⟩ := hrel
      by_cases hlt : i < n
      · rcases H3.out with h3 | ⟨bt, ot, hat, _, hc⟩
        · have := HN.out; rw [h3] at this; simp at this; omega
        subst hat
        have hc1 := hc i (by rw [← HN.out]; exact hlt)
        have HC := hide hc
        have UN := hide (fun j (hj : j < i) => FA.out.un i (by rw [← HN.out]; exact hlt) j hj)
        generalize C.getD i ⟨#[]⟩ = z at hc1 UN
        have hlt' : (i : Int) < (n : Int) := by omega
        have hic : (i : Int) ≤ (cc : Int) := by omega
        have hi0 : (0 : Int) ≤ (i : Int) := by omega
        clear hc
        go_wp2
        go_loop [131] (fun vi => ∃ k : Nat, k ≤ i ∧ vi = .int .i64 k) (fun vi => i - (intOf vi).toNat)
        case atStart => exact ⟨0, Nat.zero_le _, rfl⟩
        case round =>
          obtain ⟨j, hj, rfl⟩ := hrel
          by_cases hjl : j < i
          · have hc2 := HC.out j (by rw [← HN.out]; omega)
            have hne := UN.out j hjl
            generalize C.getD j ⟨#[]⟩ = y at hc2 hne
            have hjl' : (j : Int) < (i : Int) := by omega
            have hne1 := toList_ne (fun e => hne e.symm)
            have hne2 : (z.toList == y.toList) = false := by simpa using hne1
            clear hne
            go_wp2
            go_round
            case rel => exact ⟨j + 1, by omega, by go_num⟩
            case measure => simp [intOf]; omega
          · obtain rfl : j = i := by omega
            go_wp2
            go_round
            case rel => exact ⟨j + 1, by omega, by go_num⟩
            case measure => simp [intOf]; omega
      obtain rfl : i = n := by omega
      have q1' := q1
      rw [FA.out.len, ← HM.out] at q1'
      clear q1
      have OO : Hid ((wr.alloc (.cells #[] 9)).ownsRow wr.heap.size 9 1 (.slice (some ⟨wr.heap.size, 0, none⟩) 0 0) 0 (([] : List ByteArray).map Value.string)) :=
        World.ownsRow_lit wr #[] 0 (Nat.le_refl _) (Nat.zero_le _) (by rfl)
      have TX0 := hide (TX9.out.below ((Below.refl wr.heap.size wr).alloc (Nat.le_refl _) (.cells #[] 9)))
      rw [← HM.out] at TX0
      go_wp2_with (at_builtin; refine wpList_append_texts9 rfl (.tmp 152) (.tmp 153) rfl wr.heap.size _ 0 [] xs rfl OO.out _ rfl TX0.out (by omega) (by simp) ?_)
      intro v1 x1 ho1 hg1
      have hb1 : Below wr.heap.size wr x1 := ((Below.refl _ _).alloc (Nat.le_refl _) _).grown hg1 (by simp) (fun k hk => by simp [Value.ownBlock] at hk; omega)
      obtain ⟨xa, xc, rfl⟩ := row_slice9 ho1
      have O1 := hide ho1
      have B1 := hide hb1
      have TXA := hide (TX9.out.below hb1)
      rw [← HM.out] at TXA
      clear ho1 hg1 hb1 TX0 OO
      go_wp2_with (at_builtin; refine wpList_append_texts9 rfl (.tmp 154) (.tmp 155) rfl wr.heap.size _ xs.length xs xs rfl O1.out _ rfl TXA.out (by omega) B1.out.size ?_)
      intro v2 x2 ho2 hg2
      have bA : Below wr.heap.size wr x2 := B1.out.grown hg2 B1.out.size (fun k hk => (row_block O1.out hk).1)
      have TW := FA.out.twice
      generalize hys : xs ++ xs = ys at ho2 TW
      have RW := hide (OwnT.rd ho2 (fun s hs => L9.out s (by rw [← hys] at hs; simpa using hs)))
      obtain ⟨ya, yc, rfl⟩ := row_slice9 ho2
      clear ho2 hg2 O1 B1 TXA hys
      have St := hide (S9.out.trans (bA.mono S9.out.size))
      have Xt := hide (boxed2_below X9.out bA)
      have RCt := hide (RC9.out.below bA)
      clear bA S9 X9 RC9
      clear TX9
      go_wp2_with fail
      refine (dedupAll_calls _ ys _ RW.out).mono ?_
      rcases TW with e2 | ⟨V, e2⟩
      case inl =>
        rw [e2]
        simp only
        clear e2 RW FA
        generalize ([] : List ByteArray) = C2
        generalize ([] : List (List Int)) = V
        rintro e wcu ⟨vc2, vu2, rfl, rc2, ru2, b, _⟩
        obtain ⟨ac2, cc2, rfl⟩ := rdT_slice9 rc2
        obtain ⟨au2, cu2, rfl⟩ := rdM_slice9 ru2
        have bb := below_box wcu (.cells #[.slice ac2 C2.length cc2, .slice au2 V.length cu2] 27)
        obtain ⟨wu, hw⟩ : ∃ u, u = wcu.alloc (.cells #[.slice ac2 C2.length cc2, .slice au2 V.length cu2] 27) := ⟨_, rfl⟩
        obtain ⟨gu, hg⟩ : ∃ u, u = wcu.heap.size := ⟨_, rfl⟩
        have xx : Boxed2 wu gu 27 (.slice ac2 C2.length cc2) (.slice au2 V.length cu2) := by rw [hw, hg]; exact boxed2_new _ _ _ _
        rw [← hw] at bb
        have Wu : Hid (wcu.alloc (.cells #[.slice ac2 C2.length cc2, .slice au2 V.length cu2] 27) = wu) := hw.symm
        have Gu : Hid (wcu.heap.size = gu) := hg.symm
        have Zu := hide xx
        have RTu := hide (rc2.below bb)
        have RVu := hide (ru2.below bb)
        have bt := b.trans (bb.mono b.size)
        clear bb b xx hw hg rc2 ru2
        have Su := hide (St.out.trans (bt.mono St.out.size))
        have Xu := hide (boxed2_below Xt.out bt)
        have RCu := hide (RCt.out.below bt)
        clear bt St Xt RCt
        go_upto_region 31 with fail
        rw [Wu.out, Gu.out]
        clear Wu Gu
        go_wp2_with fail
        refine (drawRebuildText_calls _ _ (R1.out.below Su.out)).mono ?_
        rintro e wca ⟨vc8, vu8, C8, U8, n8, rfl, rc8, ru8, lC8, ln8, b8⟩
        obtain ⟨ac8, cc8, rfl⟩ := rdT_slice9 rc8
        obtain ⟨au8, cu8, rfl⟩ := rdM_slice9 ru8
        have bb := below_box wca (.cells #[.slice ac8 C8.length cc8, .slice au8 U8.length cu8] 27)
        obtain ⟨wa, hw⟩ : ∃ u, u = wca.alloc (.cells #[.slice ac8 C8.length cc8, .slice au8 U8.length cu8] 27) := ⟨_, rfl⟩
        obtain ⟨ga, hg⟩ : ∃ u, u = wca.heap.size := ⟨_, rfl⟩
        have xx : Boxed2 wa ga 27 (.slice ac8 C8.length cc8) (.slice au8 U8.length cu8) := by rw [hw, hg]; exact boxed2_new _ _ _ _
        rw [← hw] at bb
        have Wa : Hid (wca.alloc (.cells #[.slice ac8 C8.length cc8, .slice au8 U8.length cu8] 27) = wa) := hw.symm
        have Ga : Hid (wca.heap.size = ga) := hg.symm
        have Xa := hide xx
        have RCa := hide (rc8.below bb)
        have RUa := hide (ru8.below bb)
        have bt := b8.trans (bb.mono b8.size)
        clear bb b8 xx hw hg rc8 ru8
        have Sa := hide (Su.out.trans (bt.mono Su.out.size))
        clear bt Su
        go_upto_region 34 with fail
        rw [Wa.out, Ga.out]
        clear Wa Ga
        have q0 := Xa.out.c0
        have q1 := Xa.out.c1
        go_wp2_with fail
        refine (rebuildText_calls _ _ C8 U8 (n8 : Int) _ RCa.out RUa.out (by omega)).mono ?_
        rintro e wb ⟨rfl, b⟩
        clear q0 q1
        have Sb := hide (Sa.out.trans (b.mono Sa.out.size))
        have Xb := hide (boxed2_below Xa.out b)
        have RCb := hide (RCa.out.below b)
        have RUb := hide (RUa.out.below b)
        clear b Sa Xa RCa RUa
        have q0 := Xb.out.c0
        have q1 := Xb.out.c1
        generalize hrb : rebR C8 U8 (n8 : Int) = rb
        have HRB := hide hrb
        clear hrb
        obtain ⟨rb1, rb2⟩ := rb
        simp only
        go_wp2_with fail
        refine (sRebuildText_calls _ _ C8 U8 (n8 : Int) _ RCb.out RUb.out (by omega)).mono ?_
        rw [HRB.out]
        rintro e wcc ⟨rfl, b⟩
        clear q0 q1
        have Sc := hide (Sb.out.trans (b.mono Sb.out.size))
        clear b Sb Xb RCb RUb
        simp only
        go_wp2_with fail
        refine (drawJoinChunks_calls _ _ (R1.out.below Sc.out)).mono ?_
        rintro e wd ⟨vj, js, rfl, oj, lj, sj, b⟩
        obtain ⟨aj, cj, rfl⟩ := row_slice9 oj
        have JX : ∀ s ∈ js, s.size ≤ maxLen := mem_sz sj (by unfold maxLen; omega)
        have RJd := hide (OwnT.rd oj JX)
        have LJ : Hid (js.length ≤ 1048576) := by show _ ≤ _; omega
        have SJ : Hid (∀ i, i < js.length → (js.getD i ⟨#[]⟩).size ≤ 1048576) := fun i hi => by have := sj i hi; omega
        clear oj JX sj
        have Sd := hide (Sc.out.trans (b.mono Sc.out.size))
        clear b Sc
        go_wp2_with fail
        refine (joinChunks_calls _ js _ RJd.out LJ.out SJ.out).mono ?_
        rintro e we ⟨rfl, b⟩
        have Se := hide (Sd.out.trans (b.mono Sd.out.size))
        have RJe := hide (RJd.out.below b)
        clear b Sd RJd
        generalize hjr : jchR js = jr
        have HJR := hide hjr
        clear hjr
        obtain ⟨jr1, jr2⟩ := jr
        simp only
        go_wp2_with fail
        refine (sJoinChunks_calls _ js _ RJe.out LJ.out SJ.out).mono ?_
        rw [HJR.out]
        rintro e wf ⟨rfl, b⟩
        have Sf := hide (Se.out.trans (b.mono Se.out.size))
        have RJf := hide (RJe.out.below b)
        clear b Se RJe
        simp only
        clear HRB HJR
        go_wp2
        go_ret
        exact ⟨by simp, Sf.out⟩
      case inr =>
        rw [e2]
        simp only
        clear e2 RW FA
        rintro e wcu ⟨vc2, vu2, rfl, rc2, ru2, b, _⟩
        obtain ⟨ac2, cc2, rfl⟩ := rdT_slice9 rc2
        obtain ⟨au2, cu2, rfl⟩ := rdM_slice9 ru2
        have bb := below_box wcu (.cells #[.slice ac2 C.length cc2, .slice au2 V.length cu2] 27)
        obtain ⟨wu, hw⟩ : ∃ u, u = wcu.alloc (.cells #[.slice ac2 C.length cc2, .slice au2 V.length cu2] 27) := ⟨_, rfl⟩
        obtain ⟨gu, hg⟩ : ∃ u, u = wcu.heap.size := ⟨_, rfl⟩
        have xx : Boxed2 wu gu 27 (.slice ac2 C.length cc2) (.slice au2 V.length cu2) := by rw [hw, hg]; exact boxed2_new _ _ _ _
        rw [← hw] at bb
        have Wu : Hid (wcu.alloc (.cells #[.slice ac2 C.length cc2, .slice au2 V.length cu2] 27) = wu) := hw.symm
        have Gu : Hid (wcu.heap.size = gu) := hg.symm
        have Zu := hide xx
        have RTu := hide (rc2.below bb)
        have RVu := hide (ru2.below bb)
        have bt := b.trans (bb.mono b.size)
        clear bb b xx hw hg rc2 ru2
        have Su := hide (St.out.trans (bt.mono St.out.size))
        have Xu := hide (boxed2_below Xt.out bt)
        have RCu := hide (RCt.out.below bt)
        clear bt St Xt RCt
        go_upto_region 31 with fail
        rw [Wu.out, Gu.out]
        clear Wu Gu
        have q0 := Xu.out.c0
        have q1 := Xu.out.c1
        have q2 := Zu.out.c0
        have q3 := Zu.out.c1
        go_wp2_with fail
        refine (sameTexts9_same _ _ C _ RTu.out RCu.out).mono ?_
        rintro e wv ⟨rfl, b⟩
        clear q0 q1 q2 q3
        have Sv := hide (Su.out.trans (b.mono Su.out.size))
        have Xv := hide (boxed2_below Xu.out b)
        have RCv := hide (RCu.out.below b)
        have Zv := hide (boxed2_below Zu.out b)
        have RTv := hide (RTu.out.below b)
        have RVv := hide (RVu.out.below b)
        clear b Su Xu RCu Zu RTu RVu
        go_wp2_with fail
        refine (drawRebuildText_calls _ _ (R1.out.below Sv.out)).mono ?_
        rintro e wca ⟨vc8, vu8, C8, U8, n8, rfl, rc8, ru8, lC8, ln8, b8⟩
        obtain ⟨ac8, cc8, rfl⟩ := rdT_slice9 rc8
        obtain ⟨au8, cu8, rfl⟩ := rdM_slice9 ru8
        have bb := below_box wca (.cells #[.slice ac8 C8.length cc8, .slice au8 U8.length cu8] 27)
        obtain ⟨wa, hw⟩ : ∃ u, u = wca.alloc (.cells #[.slice ac8 C8.length cc8, .slice au8 U8.length cu8] 27) := ⟨_, rfl⟩
        obtain ⟨ga, hg⟩ : ∃ u, u = wca.heap.size := ⟨_, rfl⟩
        have xx : Boxed2 wa ga 27 (.slice ac8 C8.length cc8) (.slice au8 U8.length cu8) := by rw [hw, hg]; exact boxed2_new _ _ _ _
        rw [← hw] at bb
        have Wa : Hid (wca.alloc (.cells #[.slice ac8 C8.length cc8, .slice au8 U8.length cu8] 27) = wa) := hw.symm
        have Ga : Hid (wca.heap.size = ga) := hg.symm
        have Xa := hide xx
        have RCa := hide (rc8.below bb)
        have RUa := hide (ru8.below bb)
        have bt := b8.trans (bb.mono b8.size)
        clear bb b8 xx hw hg rc8 ru8
        have Sa := hide (Sv.out.trans (bt.mono Sv.out.size))
        clear bt Sv
        go_upto_region 34 with fail
        rw [Wa.out, Ga.out]
        clear Wa Ga
        have q0 := Xa.out.c0
        have q1 := Xa.out.c1
        go_wp2_with fail
        refine (rebuildText_calls _ _ C8 U8 (n8 : Int) _ RCa.out RUa.out (by omega)).mono ?_
        rintro e wb ⟨rfl, b⟩
        clear q0 q1
        have Sb := hide (Sa.out.trans (b.mono Sa.out.size))
        have Xb := hide (boxed2_below Xa.out b)
        have RCb := hide (RCa.out.below b)
        have RUb := hide (RUa.out.below b)
        clear b Sa Xa RCa RUa
        have q0 := Xb.out.c0
        have q1 := Xb.out.c1
        generalize hrb : rebR C8 U8 (n8 : Int) = rb
        have HRB := hide hrb
        clear hrb
        obtain ⟨rb1, rb2⟩ := rb
        simp only
        go_wp2_with fail
        refine (sRebuildText_calls _ _ C8 U8 (n8 : Int) _ RCb.out RUb.out (by omega)).mono ?_
        rw [HRB.out]
        rintro e wcc ⟨rfl, b⟩
        clear q0 q1
        have Sc := hide (Sb.out.trans (b.mono Sb.out.size))
        clear b Sb Xb RCb RUb
        simp only
        go_wp2_with fail
        refine (drawJoinChunks_calls _ _ (R1.out.below Sc.out)).mono ?_
        rintro e wd ⟨vj, js, rfl, oj, lj, sj, b⟩
        obtain ⟨aj, cj, rfl⟩ := row_slice9 oj
        have JX : ∀ s ∈ js, s.size ≤ maxLen := mem_sz sj (by unfold maxLen; omega)
        have RJd := hide (OwnT.rd oj JX)
        have LJ : Hid (js.length ≤ 1048576) := by show _ ≤ _; omega
        have SJ : Hid (∀ i, i < js.length → (js.getD i ⟨#[]⟩).size ≤ 1048576) := fun i hi => by have := sj i hi; omega
        clear oj JX sj
        have Sd := hide (Sc.out.trans (b.mono Sc.out.size))
        clear b Sc
        go_wp2_with fail
        refine (joinChunks_calls _ js _ RJd.out LJ.out SJ.out).mono ?_
        rintro e we ⟨rfl, b⟩
        have Se := hide (Sd.out.trans (b.mono Sd.out.size))
        have RJe := hide (RJd.out.below b)
        clear b Sd RJd
        generalize hjr : jchR js = jr
        have HJR := hide hjr
        clear hjr
        obtain ⟨jr1, jr2⟩ := jr
        simp only
        go_wp2_with fail
        refine (sJoinChunks_calls _ js _ RJe.out LJ.out SJ.out).mono ?_
        rw [HJR.out]
        rintro e wf ⟨rfl, b⟩
        have Sf := hide (Se.out.trans (b.mono Se.out.size))
        have RJf := hide (RJe.out.below b)
        clear b Se RJe
        simp only
        clear HRB HJR
        go_wp2
        go_ret
        exact ⟨by simp, Sf.out⟩
end Go.Proofs.Ythmijjcddjlebaa
