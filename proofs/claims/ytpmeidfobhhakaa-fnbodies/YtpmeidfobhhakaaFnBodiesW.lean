/-
  The law of bodies, over drawn bytes: the call returns true, and nothing that was there is written. No condition.
-/
import Derived.Test.YtpmeidfobhhakaaBodL
namespace Go.Proofs.Ytpmeidfobhhakaa
open Go.RowKit
set_option linter.unusedVariables false

set_option maxRecDepth 100000 in
set_option maxHeartbeats 6400000 in
theorem fnBodies_walk (a : Option Addr) (len cap : Nat) (a' : Option Addr) (len' cap' : Nat) (w : World) (h0 : RdB w (.slice a len cap)) (h1 : RdB w (.slice a' len' cap')) (b0 : len ≤ 140737488351232) (b1 : len' ≤ 140737488351232) :
    Calls Try.prog 5 #[.slice a len cap, .slice a' len' cap'] w fun e w' => e = .returned (.bool true) ∧ Below w.heap.size w w' := by
  by_cases hbig : (len : Int) + (len' : Int) ≤ 1048576
  case neg =>
    have h' : (1048576 : Int) < (len : Int) + (len' : Int) := by omega
    go_enter Try.func5, Try.ntmps5
    go_wp2
    go_ret
    exact ⟨rfl, Below.refl _ _⟩
  have hbig' : ¬ (1048576 : Int) < (len : Int) + (len' : Int) := by omega
  have R0 := hide h0
  have R1 := hide h1
  clear h0 h1
  go_enter Try.func5, Try.ntmps5
  go_wp2_with fail
  refine (drawFrameAll_calls _ _ R0.out).mono ?_
  rintro e w1 ⟨K, A, E, s, hA, hs, rfl, b⟩
  have S1 := hide b
  clear b
  have hra := ra_fa (k := K) (p := A) (l := E) (s := s)
  have hrt := fun h => ra_turned (k := K) (p := A) (l := E) (s := s) h hA
  obtain ⟨hn, hsm⟩ := faR_facts K A E s
  have D1 := hide (fun W => frameAll_calls K A E s W (by unfold maxLen; omega))
  have D2 := hide (fun W => sFrameAll_calls K A E s W (by unfold maxLen; omega))
  generalize (faR K A E s).1 = xs at hra hrt hn hsm D1 D2
  generalize (faR K A E s).2 = ok at hra hrt D1 D2
  have RA := hide hra
  have RT := hide hrt
  have SM := hide hsm
  clear hra hrt hsm hA
  go_wp2_with fail
  refine (D1.out _).mono ?_
  rintro e w2 ⟨v2, rfl, o2, b⟩
  have S2 := hide (S1.out.trans (b.mono S1.out.size))
  have R2 := hide (o2.rd SM.out)
  obtain ⟨a2, c2, rfl⟩ := own_slice o2
  clear b o2 S1
  go_wp2_with fail
  refine (D2.out _).mono ?_
  rintro e w3 ⟨v3, rfl, o3, b⟩
  have S3 := hide (S2.out.trans (b.mono S2.out.size))
  have R3 := hide (o3.rd SM.out)
  have Q3 := hide (R2.out.below b)
  obtain ⟨a3, c3, rfl⟩ := own_slice o3
  clear b o3 S2 R2
  go_wp2_with fail
  refine (sameTexts_same _ _ xs _ Q3.out R3.out).mono ?_
  rintro e w4 ⟨rfl, b⟩
  have S4 := hide (S3.out.trans (b.mono S3.out.size))
  have Q4 := hide (Q3.out.below b)
  clear b S3 Q3 R3
  cases ok with
  | false =>
    go_wp2_with fail
    refine (drawSplitBody_calls _ _ (R1.out.below S4.out)).mono ?_
    rintro e wt ⟨t, ht, rfl, b⟩
    have St := hide (S4.out.trans (b.mono S4.out.size))
    clear b
    have hjs := join_spl t
    obtain ⟨_, hsm2⟩ := splR_facts t
    have D1 := hide (fun W => splitBody_calls t W (by unfold maxLen; omega))
    have D2 := hide (fun W => sSplitBody_calls t W (by unfold maxLen; omega))
    generalize (splR t).1 = zs at hjs hsm2 D1 D2
    generalize (splR t).2 = ok2 at hjs D1 D2
    have JS := hide hjs
    have SM2 := hide hsm2
    clear hjs hsm2
    go_wp2_with fail
    refine (D1.out _).mono ?_
    rintro e wu ⟨vu, rfl, ou, b⟩
    have Su := hide (St.out.trans (b.mono St.out.size))
    have Ru := hide (ou.rd SM2.out)
    obtain ⟨au, cu, rfl⟩ := own_slice ou
    clear b ou St
    go_wp2_with fail
    refine (D2.out _).mono ?_
    rintro e wv ⟨vv, rfl, ov, b⟩
    have Sv := hide (Su.out.trans (b.mono Su.out.size))
    have Rv := hide (ov.rd SM2.out)
    have Qv := hide (Ru.out.below b)
    obtain ⟨av, cv, rfl⟩ := own_slice ov
    clear b ov Su Ru
    go_wp2_with fail
    refine (sameTexts_same _ _ zs _ Qv.out Rv.out).mono ?_
    rintro e wx ⟨rfl, b⟩
    have Sx := hide (Sv.out.trans (b.mono Sv.out.size))
    have Qx := hide (Qv.out.below b)
    clear b Sv Qv Rv
    cases ok2 with
    | false =>
      go_wp2_with fail
      refine (drawJoinBody_calls _ _ (R1.out.below Sx.out)).mono ?_
      rintro e wa ⟨va, xa, rfl, ra, b⟩
      have Sa := hide (Sx.out.trans (b.mono Sx.out.size))
      have Ra := hide ra
      obtain ⟨aa, ca, hva, _⟩ := ra
      subst hva
      clear b
      go_wp2_with fail
      refine (joinBody_calls _ xa _ Ra.out).mono ?_
      rintro e wb ⟨rfl, b⟩
      have Sb := hide (Sa.out.trans (b.mono Sa.out.size))
      have Rb := hide (Ra.out.below b)
      clear b Sa Ra
      go_wp2_with fail
      refine (sJoinBody_calls _ xa _ Rb.out).mono ?_
      rintro e wc ⟨rfl, b⟩
      have Sc := hide (Sb.out.trans (b.mono Sb.out.size))
      clear b Sb Rb
      generalize (jnbR xa).1 = y1
      generalize (jnbR xa).2 = y2
      go_wp2_with fail
      refine (drawReadAll_calls _ _ (R1.out.below Sc.out)).mono ?_
      rintro e wd ⟨vd, xd, Kd, Ad, Ed, rfl, rd, b⟩
      have Sd := hide (Sc.out.trans (b.mono Sc.out.size))
      have Rd1 := hide rd
      obtain ⟨ad, cd, hvd, _⟩ := rd
      subst hvd
      clear b Sc
      go_wp2_with fail
      refine (readAll_calls _ xd Kd Ad Ed _ Rd1.out).mono ?_
      rintro e we ⟨rfl, b⟩
      have Se := hide (Sd.out.trans (b.mono Sd.out.size))
      have Re := hide (Rd1.out.below b)
      clear b Sd Rd1
      go_wp2_with fail
      refine (sReadAll_calls _ xd Kd Ad Ed _ Re.out).mono ?_
      rintro e wf ⟨rfl, b⟩
      have Sf := hide (Se.out.trans (b.mono Se.out.size))
      clear b Se Re
      generalize (raR xd Kd Ad Ed).1 = y3
      generalize (raR xd Kd Ad Ed).2.1 = y4
      generalize (raR xd Kd Ad Ed).2.2 = y5
      go_wp2
      go_ret
      exact ⟨by simp, Sf.out⟩
    | true =>
      go_wp2_with fail
      refine (joinBody_calls _ zs _ Qx.out).mono ?_
      rintro e wy ⟨rfl, b⟩
      rw [JS.out (by simp)]
      simp only []
      have Sy := hide (Sx.out.trans (b.mono Sx.out.size))
      clear b Sx Qx
      go_wp2_with fail
      refine (drawJoinBody_calls _ _ (R1.out.below Sy.out)).mono ?_
      rintro e wa ⟨va, xa, rfl, ra, b⟩
      have Sa := hide (Sy.out.trans (b.mono Sy.out.size))
      have Ra := hide ra
      obtain ⟨aa, ca, hva, _⟩ := ra
      subst hva
      clear b
      go_wp2_with fail
      refine (joinBody_calls _ xa _ Ra.out).mono ?_
      rintro e wb ⟨rfl, b⟩
      have Sb := hide (Sa.out.trans (b.mono Sa.out.size))
      have Rb := hide (Ra.out.below b)
      clear b Sa Ra
      go_wp2_with fail
      refine (sJoinBody_calls _ xa _ Rb.out).mono ?_
      rintro e wc ⟨rfl, b⟩
      have Sc := hide (Sb.out.trans (b.mono Sb.out.size))
      clear b Sb Rb
      generalize (jnbR xa).1 = y1
      generalize (jnbR xa).2 = y2
      go_wp2_with fail
      refine (drawReadAll_calls _ _ (R1.out.below Sc.out)).mono ?_
      rintro e wd ⟨vd, xd, Kd, Ad, Ed, rfl, rd, b⟩
      have Sd := hide (Sc.out.trans (b.mono Sc.out.size))
      have Rd1 := hide rd
      obtain ⟨ad, cd, hvd, _⟩ := rd
      subst hvd
      clear b Sc
      go_wp2_with fail
      refine (readAll_calls _ xd Kd Ad Ed _ Rd1.out).mono ?_
      rintro e we ⟨rfl, b⟩
      have Se := hide (Sd.out.trans (b.mono Sd.out.size))
      have Re := hide (Rd1.out.below b)
      clear b Sd Rd1
      go_wp2_with fail
      refine (sReadAll_calls _ xd Kd Ad Ed _ Re.out).mono ?_
      rintro e wf ⟨rfl, b⟩
      have Sf := hide (Se.out.trans (b.mono Se.out.size))
      clear b Se Re
      generalize (raR xd Kd Ad Ed).1 = y3
      generalize (raR xd Kd Ad Ed).2.1 = y4
      generalize (raR xd Kd Ad Ed).2.2 = y5
      go_wp2
      go_ret
      exact ⟨by simp, Sf.out⟩
  | true =>
    go_wp2_with fail
    refine (readAll_calls _ xs K A E _ Q4.out).mono ?_
    rintro e w5 ⟨rfl, b⟩
    rw [RA.out (by simp)]
    simp only []
    have S5 := hide (S4.out.trans (b.mono S4.out.size))
    have Q5 := hide (Q4.out.below b)
    clear b S4 Q4
    by_cases hlen : 1 < xs.length
    case neg =>
      have hlen' : ¬ (1 : Int) < (xs.length : Int) := by omega
      go_wp2_with fail
      refine (drawSplitBody_calls _ _ (R1.out.below S5.out)).mono ?_
      rintro e wt ⟨t, ht, rfl, b⟩
      have St := hide (S5.out.trans (b.mono S5.out.size))
      clear b
      have hjs := join_spl t
      obtain ⟨_, hsm2⟩ := splR_facts t
      have D1 := hide (fun W => splitBody_calls t W (by unfold maxLen; omega))
      have D2 := hide (fun W => sSplitBody_calls t W (by unfold maxLen; omega))
      generalize (splR t).1 = zs at hjs hsm2 D1 D2
      generalize (splR t).2 = ok2 at hjs D1 D2
      have JS := hide hjs
      have SM2 := hide hsm2
      clear hjs hsm2
      go_wp2_with fail
      refine (D1.out _).mono ?_
      rintro e wu ⟨vu, rfl, ou, b⟩
      have Su := hide (St.out.trans (b.mono St.out.size))
      have Ru := hide (ou.rd SM2.out)
      obtain ⟨au, cu, rfl⟩ := own_slice ou
      clear b ou St
      go_wp2_with fail
      refine (D2.out _).mono ?_
      rintro e wv ⟨vv, rfl, ov, b⟩
      have Sv := hide (Su.out.trans (b.mono Su.out.size))
      have Rv := hide (ov.rd SM2.out)
      have Qv := hide (Ru.out.below b)
      obtain ⟨av, cv, rfl⟩ := own_slice ov
      clear b ov Su Ru
      go_wp2_with fail
      refine (sameTexts_same _ _ zs _ Qv.out Rv.out).mono ?_
      rintro e wx ⟨rfl, b⟩
      have Sx := hide (Sv.out.trans (b.mono Sv.out.size))
      have Qx := hide (Qv.out.below b)
      clear b Sv Qv Rv
      cases ok2 with
      | false =>
        go_wp2_with fail
        refine (drawJoinBody_calls _ _ (R1.out.below Sx.out)).mono ?_
        rintro e wa ⟨va, xa, rfl, ra, b⟩
        have Sa := hide (Sx.out.trans (b.mono Sx.out.size))
        have Ra := hide ra
        obtain ⟨aa, ca, hva, _⟩ := ra
        subst hva
        clear b
        go_wp2_with fail
        refine (joinBody_calls _ xa _ Ra.out).mono ?_
        rintro e wb ⟨rfl, b⟩
        have Sb := hide (Sa.out.trans (b.mono Sa.out.size))
        have Rb := hide (Ra.out.below b)
        clear b Sa Ra
        go_wp2_with fail
        refine (sJoinBody_calls _ xa _ Rb.out).mono ?_
        rintro e wc ⟨rfl, b⟩
        have Sc := hide (Sb.out.trans (b.mono Sb.out.size))
        clear b Sb Rb
        generalize (jnbR xa).1 = y1
        generalize (jnbR xa).2 = y2
        go_wp2_with fail
        refine (drawReadAll_calls _ _ (R1.out.below Sc.out)).mono ?_
        rintro e wd ⟨vd, xd, Kd, Ad, Ed, rfl, rd, b⟩
        have Sd := hide (Sc.out.trans (b.mono Sc.out.size))
        have Rd1 := hide rd
        obtain ⟨ad, cd, hvd, _⟩ := rd
        subst hvd
        clear b Sc
        go_wp2_with fail
        refine (readAll_calls _ xd Kd Ad Ed _ Rd1.out).mono ?_
        rintro e we ⟨rfl, b⟩
        have Se := hide (Sd.out.trans (b.mono Sd.out.size))
        have Re := hide (Rd1.out.below b)
        clear b Sd Rd1
        go_wp2_with fail
        refine (sReadAll_calls _ xd Kd Ad Ed _ Re.out).mono ?_
        rintro e wf ⟨rfl, b⟩
        have Sf := hide (Se.out.trans (b.mono Se.out.size))
        clear b Se Re
        generalize (raR xd Kd Ad Ed).1 = y3
        generalize (raR xd Kd Ad Ed).2.1 = y4
        generalize (raR xd Kd Ad Ed).2.2 = y5
        go_wp2
        go_ret
        exact ⟨by simp, Sf.out⟩
      | true =>
        go_wp2_with fail
        refine (joinBody_calls _ zs _ Qx.out).mono ?_
        rintro e wy ⟨rfl, b⟩
        rw [JS.out (by simp)]
        simp only []
        have Sy := hide (Sx.out.trans (b.mono Sx.out.size))
        clear b Sx Qx
        go_wp2_with fail
        refine (drawJoinBody_calls _ _ (R1.out.below Sy.out)).mono ?_
        rintro e wa ⟨va, xa, rfl, ra, b⟩
        have Sa := hide (Sy.out.trans (b.mono Sy.out.size))
        have Ra := hide ra
        obtain ⟨aa, ca, hva, _⟩ := ra
        subst hva
        clear b
        go_wp2_with fail
        refine (joinBody_calls _ xa _ Ra.out).mono ?_
        rintro e wb ⟨rfl, b⟩
        have Sb := hide (Sa.out.trans (b.mono Sa.out.size))
        have Rb := hide (Ra.out.below b)
        clear b Sa Ra
        go_wp2_with fail
        refine (sJoinBody_calls _ xa _ Rb.out).mono ?_
        rintro e wc ⟨rfl, b⟩
        have Sc := hide (Sb.out.trans (b.mono Sb.out.size))
        clear b Sb Rb
        generalize (jnbR xa).1 = y1
        generalize (jnbR xa).2 = y2
        go_wp2_with fail
        refine (drawReadAll_calls _ _ (R1.out.below Sc.out)).mono ?_
        rintro e wd ⟨vd, xd, Kd, Ad, Ed, rfl, rd, b⟩
        have Sd := hide (Sc.out.trans (b.mono Sc.out.size))
        have Rd1 := hide rd
        obtain ⟨ad, cd, hvd, _⟩ := rd
        subst hvd
        clear b Sc
        go_wp2_with fail
        refine (readAll_calls _ xd Kd Ad Ed _ Rd1.out).mono ?_
        rintro e we ⟨rfl, b⟩
        have Se := hide (Sd.out.trans (b.mono Sd.out.size))
        have Re := hide (Rd1.out.below b)
        clear b Sd Rd1
        go_wp2_with fail
        refine (sReadAll_calls _ xd Kd Ad Ed _ Re.out).mono ?_
        rintro e wf ⟨rfl, b⟩
        have Sf := hide (Se.out.trans (b.mono Se.out.size))
        clear b Se Re
        generalize (raR xd Kd Ad Ed).1 = y3
        generalize (raR xd Kd Ad Ed).2.1 = y4
        generalize (raR xd Kd Ad Ed).2.2 = y5
        go_wp2
        go_ret
        exact ⟨by simp, Sf.out⟩
    have hlen' : (1 : Int) < (xs.length : Int) := by omega
    go_wp2_with fail
    refine (numberOf_calls _ _ (R1.out.below S5.out)).mono ?_
    rintro e w6 ⟨n, hnn, rfl, rfl⟩
    obtain ⟨j, hj⟩ : ∃ j, j = n % (xs.length - 1) := ⟨_, rfl⟩
    have hjl : j + 1 < xs.length := by rw [hj]; have := Nat.mod_lt n (show xs.length - 1 > 0 by omega); omega
    have hji : (n : Int) % ((xs.length : Int) - 1) = (j : Int) := by rw [hj, show (xs.length : Int) - 1 = ((xs.length - 1 : Nat) : Int) by omega]; simp
    clear hj
    have hnz : ((xs.length : Int) - 1 == 0) = false := by simp; omega
    have hnz' : (xs.length : Int) - 1 ≠ 0 := by omega
    have O6 : Hid ((w5.alloc (.cells #[] 9)).ownsRow w5.heap.size 9 1 (.slice (some ⟨w5.heap.size, 0, none⟩) 0 0) 0 (([] : List ByteArray).map Value.string)) := by
      show World.ownsRow _ _ _ _ _ _ _
      have := World.ownsRow_lit (base := w5.heap.size) (e := 9) (size := 1) w5 #[] 0 (Nat.le_refl _) (by unfold maxLen; omega) (by simp)
      simpa using this
    have Q6 := hide (Q5.out.below ((Below.refl _ _).alloc (Nat.le_refl _) (.cells #[] 9)))
    have hb6 : w5.heap.size ≤ (w5.alloc (.cells #[] 9)).heap.size := by simp
    go_wp2_with (at_builtin; refine wpList_append_texts rfl _ _ rfl w5.heap.size _ 0 [] xs rfl O6.out _ rfl Q6.out (by omega) hb6 ?_)
    intro v7 w7 o7 g7
    have D7 := hide (((Below.refl w5.heap.size w5).alloc (Nat.le_refl _) (.cells #[] 9)).grown g7 (by simp) (fun j hj => by simp [Value.ownBlock] at hj; omega))
    have q7 := Q5.out.below D7.out
    obtain ⟨_, _, hv, _, _, _, h3⟩ := q7
    simp only [Value.slice.injEq] at hv
    obtain ⟨rfl, _, rfl⟩ := hv
    rcases h3 with h3 | ⟨bb, off, rfl, hbs, hc⟩
    · subst h3; simp at hjl
    have hc1 := hc (j + 1) hjl
    have RTj := hide (RT.out (by simp) j hjl)
    have hTs : (xs.getD (j + 1) ⟨#[]⟩).size ≤ maxLen := by
      apply SM.out
      rw [List.getD_eq_getElem?_getD, List.getElem?_eq_getElem hjl]
      exact List.getElem_mem hjl
    obtain ⟨T, hT⟩ : ∃ T, T = xs.getD (j + 1) ⟨#[]⟩ := ⟨_, rfl⟩
    rw [← hT] at hc1 RTj hTs
    rcases o7.2 with ⟨_, hz⟩ | ⟨gg, cap7, cur, rfl, hbg, hgg, _⟩
    · omega
    have f7 : w7.frozen? ⟨gg, j, none⟩ = false := o7.frozenAt j
    obtain ⟨old, hc3⟩ : ∃ old, w7.cell? ⟨gg, j, none⟩ = some old := by
      rw [o7.cellAt j (by omega)]
      exact ⟨_, List.getElem?_eq_getElem (by rw [List.length_map]; omega)⟩
    have hst := o7.stored j (.string T)
    have o8 : OwnT (w7.setCell ⟨gg, j, none⟩ (.string T)) w5.heap.size (.slice (some ⟨gg, 0, none⟩) xs.length cap7) (xs.set j T) := by
      have := hst.1
      rw [← List.map_set] at this
      show World.ownsRow _ _ _ _ _ (xs.set j T).length _
      rw [List.length_set]
      exact this
    have R8 := hide (o8.rd (mem_set_small SM.out hTs))
    have S8 := hide (S5.out.trans ((D7.out.setCell (p := ⟨gg, j, none⟩) (by show w5.heap.size ≤ gg; exact hbg) (.string T)).mono S5.out.size))
    have hj1 : (j : Int) + 1 < (xs.length : Int) := by omega
    have hj2 : ((j : Int) + 1).toNat = j + 1 := by omega
    have hj3 : (j : Int) < (xs.length : Int) := by omega
    clear hT hc o7 o8 hst g7 hgg hbs O6 Q6 hb6 D7 S5 Q5
    go_wp2_with fail
    refine (readAll_calls _ (xs.set j T) K A E _ R8.out).mono ?_
    rintro e w9 ⟨rfl, b⟩
    rw [RTj.out]
    simp only []
    have S9 := hide (S8.out.trans (b.mono S8.out.size))
    clear b S8 R8 hc1 hc3 f7
    go_wp2_with fail
    refine (drawSplitBody_calls _ _ (R1.out.below S9.out)).mono ?_
    rintro e wt ⟨t, ht, rfl, b⟩
    have St := hide (S9.out.trans (b.mono S9.out.size))
    clear b
    have hjs := join_spl t
    obtain ⟨_, hsm2⟩ := splR_facts t
    have D1 := hide (fun W => splitBody_calls t W (by unfold maxLen; omega))
    have D2 := hide (fun W => sSplitBody_calls t W (by unfold maxLen; omega))
    generalize (splR t).1 = zs at hjs hsm2 D1 D2
    generalize (splR t).2 = ok2 at hjs D1 D2
    have JS := hide hjs
    have SM2 := hide hsm2
    clear hjs hsm2
    go_wp2_with fail
    refine (D1.out _).mono ?_
    rintro e wu ⟨vu, rfl, ou, b⟩
    have Su := hide (St.out.trans (b.mono St.out.size))
    have Ru := hide (ou.rd SM2.out)
    obtain ⟨au, cu, rfl⟩ := own_slice ou
    clear b ou St
    go_wp2_with fail
    refine (D2.out _).mono ?_
    rintro e wv ⟨vv, rfl, ov, b⟩
    have Sv := hide (Su.out.trans (b.mono Su.out.size))
    have Rv := hide (ov.rd SM2.out)
    have Qv := hide (Ru.out.below b)
    obtain ⟨av, cv, rfl⟩ := own_slice ov
    clear b ov Su Ru
    go_wp2_with fail
    refine (sameTexts_same _ _ zs _ Qv.out Rv.out).mono ?_
    rintro e wx ⟨rfl, b⟩
    have Sx := hide (Sv.out.trans (b.mono Sv.out.size))
    have Qx := hide (Qv.out.below b)
    clear b Sv Qv Rv
    cases ok2 with
    | false =>
      go_wp2_with fail
      refine (drawJoinBody_calls _ _ (R1.out.below Sx.out)).mono ?_
      rintro e wa ⟨va, xa, rfl, ra, b⟩
      have Sa := hide (Sx.out.trans (b.mono Sx.out.size))
      have Ra := hide ra
      obtain ⟨aa, ca, hva, _⟩ := ra
      subst hva
      clear b
      go_wp2_with fail
      refine (joinBody_calls _ xa _ Ra.out).mono ?_
      rintro e wb ⟨rfl, b⟩
      have Sb := hide (Sa.out.trans (b.mono Sa.out.size))
      have Rb := hide (Ra.out.below b)
      clear b Sa Ra
      go_wp2_with fail
      refine (sJoinBody_calls _ xa _ Rb.out).mono ?_
      rintro e wc ⟨rfl, b⟩
      have Sc := hide (Sb.out.trans (b.mono Sb.out.size))
      clear b Sb Rb
      generalize (jnbR xa).1 = y1
      generalize (jnbR xa).2 = y2
      go_wp2_with fail
      refine (drawReadAll_calls _ _ (R1.out.below Sc.out)).mono ?_
      rintro e wd ⟨vd, xd, Kd, Ad, Ed, rfl, rd, b⟩
      have Sd := hide (Sc.out.trans (b.mono Sc.out.size))
      have Rd1 := hide rd
      obtain ⟨ad, cd, hvd, _⟩ := rd
      subst hvd
      clear b Sc
      go_wp2_with fail
      refine (readAll_calls _ xd Kd Ad Ed _ Rd1.out).mono ?_
      rintro e we ⟨rfl, b⟩
      have Se := hide (Sd.out.trans (b.mono Sd.out.size))
      have Re := hide (Rd1.out.below b)
      clear b Sd Rd1
      go_wp2_with fail
      refine (sReadAll_calls _ xd Kd Ad Ed _ Re.out).mono ?_
      rintro e wf ⟨rfl, b⟩
      have Sf := hide (Se.out.trans (b.mono Se.out.size))
      clear b Se Re
      generalize (raR xd Kd Ad Ed).1 = y3
      generalize (raR xd Kd Ad Ed).2.1 = y4
      generalize (raR xd Kd Ad Ed).2.2 = y5
      go_wp2
      go_ret
      exact ⟨by simp, Sf.out⟩
    | true =>
      go_wp2_with fail
      refine (joinBody_calls _ zs _ Qx.out).mono ?_
      rintro e wy ⟨rfl, b⟩
      rw [JS.out (by simp)]
      simp only []
      have Sy := hide (Sx.out.trans (b.mono Sx.out.size))
      clear b Sx Qx
      go_wp2_with fail
      refine (drawJoinBody_calls _ _ (R1.out.below Sy.out)).mono ?_
      rintro e wa ⟨va, xa, rfl, ra, b⟩
      have Sa := hide (Sy.out.trans (b.mono Sy.out.size))
      have Ra := hide ra
      obtain ⟨aa, ca, hva, _⟩ := ra
      subst hva
      clear b
      go_wp2_with fail
      refine (joinBody_calls _ xa _ Ra.out).mono ?_
      rintro e wb ⟨rfl, b⟩
      have Sb := hide (Sa.out.trans (b.mono Sa.out.size))
      have Rb := hide (Ra.out.below b)
      clear b Sa Ra
      go_wp2_with fail
      refine (sJoinBody_calls _ xa _ Rb.out).mono ?_
      rintro e wc ⟨rfl, b⟩
      have Sc := hide (Sb.out.trans (b.mono Sb.out.size))
      clear b Sb Rb
      generalize (jnbR xa).1 = y1
      generalize (jnbR xa).2 = y2
      go_wp2_with fail
      refine (drawReadAll_calls _ _ (R1.out.below Sc.out)).mono ?_
      rintro e wd ⟨vd, xd, Kd, Ad, Ed, rfl, rd, b⟩
      have Sd := hide (Sc.out.trans (b.mono Sc.out.size))
      have Rd1 := hide rd
      obtain ⟨ad, cd, hvd, _⟩ := rd
      subst hvd
      clear b Sc
      go_wp2_with fail
      refine (readAll_calls _ xd Kd Ad Ed _ Rd1.out).mono ?_
      rintro e we ⟨rfl, b⟩
      have Se := hide (Sd.out.trans (b.mono Sd.out.size))
      have Re := hide (Rd1.out.below b)
      clear b Sd Rd1
      go_wp2_with fail
      refine (sReadAll_calls _ xd Kd Ad Ed _ Re.out).mono ?_
      rintro e wf ⟨rfl, b⟩
      have Sf := hide (Se.out.trans (b.mono Se.out.size))
      clear b Se Re
      generalize (raR xd Kd Ad Ed).1 = y3
      generalize (raR xd Kd Ad Ed).2.1 = y4
      generalize (raR xd Kd Ad Ed).2.2 = y5
      go_wp2
      go_ret
      exact ⟨by simp, Sf.out⟩
end Go.Proofs.Ytpmeidfobhhakaa
