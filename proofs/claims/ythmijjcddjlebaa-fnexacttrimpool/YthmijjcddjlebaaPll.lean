/-
  A pool that is trimmed: the model's l11Used and l11Number, call by call; what the numbers of used branches are (mathematics); a pool in a variable that is built up (PT). Each contract says what it asks.
-/
import Derived.Test.YthmijjcddjlebaaPlk
namespace Go.Proofs.Ythmijjcddjlebaa
open Go.RowKit
set_option linter.unusedVariables false

theorem selF_lt : ∀ (bs : List Bool) (o : Nat), ∀ y ∈ selF o bs, y < ((o + bs.length : Nat) : Int)
  | [], o, y, h => by simp [selF] at h
  | b :: bs, o, y, h => by
    have ih := selF_lt bs (o + 1)
    simp only [selF] at h
    split at h
    · rcases List.mem_cons.1 h with rfl | h
      · simp; omega
      · have := ih y h; simp at this ⊢; omega
    · have := ih y h; simp at this ⊢; omega
theorem selF_num (bs : List Bool) : ∀ k, k ≤ bs.length → (selF 0 (bs.take k)).length = nmF bs k
  | 0, _ => rfl
  | k + 1, hk => by
    rw [selF_succ bs k (by omega), List.length_append, selF_num bs k (by omega), nmF]
    split <;> rfl
/-- The place of a marked number among the marked ones. -/
theorem sel_at (bs : List Bool) (n : Nat) (hn : n < bs.length) (hb : bs.getD n false = true) :
    nmF bs n < (selF 0 bs).length ∧ (selF 0 bs).getD (nmF bs n) 0 = (n : Int) ∧ ∀ i, i < nmF bs n → (selF 0 bs).getD i 0 ≠ (n : Int) := by
  have e : selF 0 bs = selF 0 (bs.take n) ++ ((n : Int) :: selF (0 + (bs.take (n + 1)).length) (bs.drop (n + 1))) := by
    have h1 := selF_app (bs.take (n + 1)) (bs.drop (n + 1)) 0
    rw [List.take_append_drop, selF_succ bs n hn, if_pos hb] at h1
    rw [h1]
    simp
  have hl := selF_num bs n (by omega)
  rw [e]
  refine ⟨by simp; omega, ?_, fun i hi => ?_⟩
  · rw [List.getD_eq_getElem?_getD, List.getElem?_append_right (by omega), hl, Nat.sub_self]
    rfl
  · rw [getD_app_left _ _ i _ (by omega)]
    intro e2
    have hm : (selF 0 (bs.take n)).getD i 0 ∈ selF 0 (bs.take n) := by
      rw [List.getD_eq_getElem?_getD, List.getElem?_eq_getElem (by omega)]
      exact List.getElem_mem _
    have := selF_lt (bs.take n) 0 _ hm
    rw [e2] at this
    simp at this
    omega
/-- The first place of a number, or -1. -/
def Fst (us : List Int) (x y : Int) : Prop := (∃ k : Nat, k < us.length ∧ us.getD k 0 = x ∧ (∀ i, i < k → us.getD i 0 ≠ x) ∧ y = (k : Int)) ∨ ((∀ i, i < us.length → us.getD i 0 ≠ x) ∧ y = -1)
theorem fst_rn (bs : List Bool) (x : Int) (h : x = -1 ∨ (0 ≤ x ∧ x < (bs.length : Int) ∧ bs.getD x.toNat false = true)) : Fst (selF 0 bs) x (rnF bs x) := by
  unfold rnF
  split
  · rename_i h1
    right
    refine ⟨fun i hi e => ?_, rfl⟩
    have hm : (selF 0 bs).getD i 0 ∈ selF 0 bs := by
      rw [List.getD_eq_getElem?_getD, List.getElem?_eq_getElem hi]
      exact List.getElem_mem _
    have := selF_ge bs 0 _ hm
    rw [e, h1] at this
    simp at this
  · rename_i h1
    have h2 := h.resolve_left h1
    obtain ⟨a, b, c⟩ := sel_at bs x.toNat (by omega) h2.2.2
    have e : ((x.toNat : Nat) : Int) = x := by omega
    rw [e] at b c
    exact .inl ⟨_, a, b, c, rfl⟩
theorem trP_sel (m : List Nd) (bs : List Bool) : ∀ k, k ≤ bs.length → (selF 0 (bs.take k)).map (fun x => trB bs (m.getD x.toNat nd0)) = trP m bs k
  | 0, _ => rfl
  | k + 1, hk => by
    rw [selF_succ bs k (by omega), List.map_append, trP_sel m bs k (by omega), trP]
    split <;> simp

set_option maxRecDepth 100000 in
set_option maxHeartbeats 800000 in
theorem l11Number_calls (v : Value) (us : List Int) (x y : Int) (w : World) (h : Rd w v us) (hy : Fst us x y) :
    Calls Try.prog 105 #[v, .int .i64 x] w fun e w' => e = .returned (.int .i64 y) ∧ w = w' := by
  have R := hide h
  have HY := hide hy
  obtain ⟨a, cap, rfl, h1, h2, _⟩ := h
  have hm : us.length ≤ maxLen := by omega
  unfold maxLen at hm
  clear h1 h2 hy
  go_enter Try.func105, Try.ntmps105
  go_wp2
  go_loop [9] (fun vi => ∃ k : Nat, k ≤ us.length ∧ vi = .int .i64 k ∧ ∀ i, i < k → us.getD i 0 ≠ x) (fun vi => us.length - (intOf vi).toNat)
  case atStart => exact ⟨0, Nat.zero_le _, rfl, fun i hi => by omega⟩
  case round =>
    obtain ⟨k, hk, rfl, hall⟩ := hrel
    have HA := hide hall
    clear hall
    by_cases hlt : k < us.length
    · obtain ⟨b, o, rfl, c⟩ := R.out.cellP k hlt
      have hlt' : (k : Int) < (us.length : Int) := by omega
      obtain ⟨z, hz⟩ : ∃ z, z = us.getD k 0 := ⟨_, rfl⟩
      rw [← hz] at c
      have HZ := hide hz
      clear hz
      by_cases hzx : z = x
      · obtain rfl : y = (k : Int) := by
          rcases HY.out with ⟨j, j1, j2, j3, j4⟩ | ⟨j1, _⟩
          · have : j = k := by
              rcases Nat.lt_trichotomy j k with h | h | h
              · exact absurd j2 (HA.out j h)
              · exact h
              · exact absurd (by rw [← HZ.out]; exact hzx) (j3 k h)
            rw [j4, this]
          · exact absurd (by rw [← HZ.out]; exact hzx) (j1 k hlt)
        subst hzx
        go_wp2
        go_ret
        exact ⟨rfl, rfl⟩
      · have HN := hide hzx
        go_wp2
        go_round
        case rel =>
          refine ⟨k + 1, by omega, by go_num, fun i hi => ?_⟩
          by_cases e : i = k
          · subst e; rw [← HZ.out]; exact HN.out
          · exact HA.out i (by omega)
        case measure => simp [intOf]; omega
    · obtain rfl : k = us.length := by omega
      obtain rfl : y = -1 := by
        rcases HY.out with ⟨j, j1, j2, j3, j4⟩ | ⟨_, j2⟩
        · exact absurd j2 (HA.out j j1)
        · exact j2
      go_wp2
      go_ret
      exact ⟨rfl, rfl⟩

set_option maxRecDepth 100000 in
set_option maxHeartbeats 3200000 in
theorem l11Used_calls (p r : Value) (m : List Nd) (vs : List Int) (w : World) (h : RdP w p r m vs) (hok : okP m vs) :
    Calls Try.prog 104 #[.agg #[p, r]] w fun e w' => ∃ v, e = .returned v ∧ Own w' w.heap.size v (selF 0 (cmP m vs)) ∧ Below w.heap.size w w' := by
  have A0 := hide ((Hand.start w).box #[p, r] 43)
  have R := hide (h.below A0.out.below)
  obtain ⟨⟨ap, cp, rfl, _⟩, ⟨ar, cr, rfl, _⟩⟩ := h
  have OK := hide hok
  have h200 : m.length ≤ 200 := hok.1.1
  have h40 : vs.length ≤ 40 := hok.1.2
  clear hok
  obtain ⟨w0, hw0⟩ : ∃ w0, w0 = w.alloc (.cells #[.slice ap m.length cp, .slice ar vs.length cr] 43) := ⟨_, rfl⟩
  rw [← hw0] at A0 R
  have W0 := hide hw0
  clear hw0
  obtain ⟨e0, e1⟩ := (A0.out.atBox 0 rfl).c2
  go_enter Try.func104, Try.ntmps104
  go_upto_region 1 with fail
  rw [← W0.out]
  go_wp2
  go_loopw [3, 11] (fun vo vi wr => ∃ k : Nat, k ≤ vs.length ∧ vi = .int .i64 k ∧ Own wr w0.heap.size vo (selF 0 (cmP m (vs.take k))) ∧ Below w0.heap.size w0 wr) (fun _ vi _ => vs.length - (intOf vi).toNat)
  case atStart =>
    refine ⟨0, Nat.zero_le _, rfl, ?_, Below.refl _ _⟩
    have : selF 0 (cmP m (vs.take 0)) = [] := by rw [List.take_zero]; exact selF_none _ _
    rw [this]
    exact World.ownsRow_nil _ _ _ _
  case round =>
    obtain ⟨k, hk, rfl, ho, hb⟩ := hrel
    have O := hide ho
    have B := hide hb
    clear ho hb e0 e1
    by_cases hlt : k < vs.length
    · have hlt' : (k : Int) < (vs.length : Int) := by omega
      obtain ⟨b1, o1, rfl, cv⟩ := (R.out.2.below B.out).cellP k hlt
      have hs := OK.out.2.2 k hlt
      have CS := hide (cmP_succ m vs k hlt)
      obtain ⟨x, hx⟩ : ∃ x, x = vs.getD k 0 := ⟨_, rfl⟩
      rw [← hx] at cv hs CS
      clear hx
      by_cases h1 : x < 0
      · obtain rfl : x = -1 := hs.resolve_right (fun h => by have := h.1; omega)
        have ho := O.out
        have e : cmP m (vs.take (k + 1)) = cmP m (vs.take k) := by rw [CS.out, cmV, if_pos rfl]
        rw [← e] at ho
        have O2 := hide ho
        clear ho e
        go_wp2
        go_roundw
        case rel => exact ⟨k + 1, by omega, by go_num, O2.out, B.out⟩
        case measure => simp [intOf]; omega
      · have hne : x ≠ -1 := by omega
        have h1s := hs.resolve_left hne
        obtain ⟨n, rfl⟩ : ∃ n : Nat, x = (n : Int) := ⟨x.toNat, by have := h1s.1; omega⟩
        have hnm : n < m.length := by have := h1s.2.1; omega
        have hnm' : (n : Int) < (m.length : Int) := by omega
        obtain ⟨b2, o2', u, ks, z, rfl, hkk, hu, d0, d1⟩ := R.out.1.at n hnm
        obtain ⟨ua, uc, rfl, hul, hum⟩ := hu.slc
        have hkl : ks.length ≤ 9223372036854775807 := by unfold maxLen at hum; omega
        have hb4 := OK.out.2.1 n hnm
        rw [hkk] at hb4
        have hz := h1s.2.2
        rw [Int.toNat_natCast, hkk] at hz
        have KB : Hid (∀ i, i < ks.length → kB true m n (ks.getD i 0)) := fun i hi => (hb4.2 i hi).2 hz
        have NX : Hid (cmP m (vs.take (k + 1)) = mkS ((cmP m (vs.take k)).set n true) ks) := by show _ = _; rw [CS.out, cmV, if_neg hne, Int.toNat_natCast, hkk]
        obtain ⟨bs0, hbs0⟩ : ∃ bs, bs = cmP m (vs.take k) := ⟨_, rfl⟩
        have BL0 : Hid (bs0.length = m.length) := by show _ = _; rw [hbs0, cmP_len]
        rw [← hbs0] at NX O
        have SL : Hid ((selF 0 bs0).length ≤ 1000) := by show _ ≤ _; have := selF_len bs0 0; have := BL0.out; omega
        have U2 := hide hu
        obtain ⟨xa, xc, rfl⟩ := row_slice O.out
        clear hu hul hum hb4 hz hkk hbs0 hs h1s d1
        go_wp2_with fail
        refine (l1PutE_calls _ (selF 0 bs0) (n : Int) _ (Own.rd O.out) SL.out).mono ?_
        rintro e' w2 ⟨v2, rfl, hv2, q2⟩
        have o2 := put_step O.out B.out.size (by rw [BL0.out]; exact hnm) hv2 q2
        obtain ⟨bs, hbs⟩ : ∃ bs, bs = bs0.set n true := ⟨_, rfl⟩
        have BL : Hid (bs.length = m.length) := by show _ = _; rw [hbs, List.length_set, BL0.out]
        rw [← hbs] at o2 NX
        have O2 := hide o2
        have B2 := hide (B.out.trans (q2.mono B.out.size))
        obtain ⟨ya, yc, rfl⟩ := row_slice o2
        obtain ⟨e0, e1⟩ := ((A0.out.step B2.out).atBox 0 rfl).c2
        have d2 := cell_below d0 B2.out
        clear hv2 q2 o2 hbs d0
        go_wp2
        go_loopw [3, 27] (fun vo vj wq => ∃ j : Nat, j ≤ ks.length ∧ vj = .int .i64 j ∧ Own wq w0.heap.size vo (selF 0 (mkS bs (ks.take j))) ∧ Below w0.heap.size w0 wq) (fun _ vj _ => ks.length - (intOf vj).toNat)
        case atStart => exact ⟨0, Nat.zero_le _, rfl, by rw [List.take_zero]; exact O2.out, B2.out⟩
        case round =>
          obtain ⟨j, hj, rfl, ho, hb⟩ := hrel
          have O3 := hide ho
          have B3 := hide hb
          clear ho hb e0 e1
          by_cases hlj : j < ks.length
          · have hlj' : (j : Int) < (ks.length : Int) := by omega
            obtain ⟨b3, o3, eu, ck⟩ := (U2.out.below B3.out).cellP j hlj
            subst eu
            have hy1 := KB.out j hlj
            have MS := hide (mkS_succ bs ks j hlj)
            obtain ⟨y, hy⟩ : ∃ y, y = ks.getD j 0 := ⟨_, rfl⟩
            rw [← hy] at ck hy1 MS
            clear hy
            by_cases hy0 : 0 ≤ y
            case neg =>
              obtain rfl : y = -1 := hy1.resolve_right (fun h => hy0 h.1)
              have ho := O3.out
              have e : mkS bs (ks.take (j + 1)) = mkS bs (ks.take j) := by rw [MS.out, mkI, if_pos rfl]
              rw [← e] at ho
              have O4 := hide ho
              clear ho e
              go_wp2
              go_roundw
              case rel => exact ⟨j + 1, by omega, by go_num, O4.out, B3.out⟩
              case measure => simp [intOf]; omega
            have hym : y ≠ -1 := by omega
            have hy2 := hy1.resolve_left hym
            obtain ⟨n2, rfl⟩ : ∃ n : Nat, y = (n : Int) := ⟨y.toNat, by omega⟩
            have hn2 : n2 < m.length := by have := hy2.2.1; omega
            obtain ⟨bj, hbj⟩ : ∃ bj, bj = mkS bs (ks.take j) := ⟨_, rfl⟩
            have BJ : Hid (bj.length = m.length) := by show _ = _; rw [hbj, mkS_len, BL.out]
            have e : mkS bs (ks.take (j + 1)) = bj.set n2 true := by rw [MS.out, mkI, if_neg hym, Int.toNat_natCast, hbj]
            rw [← hbj] at O3
            have E := hide e
            have SJ : Hid ((selF 0 bj).length ≤ 1000) := by show _ ≤ _; have := selF_len bj 0; have := BJ.out; omega
            obtain ⟨xa3, xc3, rfl⟩ := row_slice O3.out
            clear e hbj hy1 hy2 MS
            go_wp2_with fail
            refine (l1PutE_calls _ (selF 0 bj) (n2 : Int) _ (Own.rd O3.out) SJ.out).mono ?_
            rintro e' w4 ⟨v4, rfl, hv4, q4⟩
            have o4 := put_step O3.out B3.out.size (by rw [BJ.out]; exact hn2) hv4 q4
            rw [← E.out] at o4
            have O4 := hide o4
            have B4 := hide (B3.out.trans (q4.mono B3.out.size))
            clear hv4 q4 o4
            go_wp2
            go_roundw
            case rel => exact ⟨j + 1, by omega, by go_num, O4.out, B4.out⟩
            case measure => simp [intOf]; omega
          · obtain rfl : j = ks.length := by omega
            have ho := O3.out
            rw [List.take_length, ← NX.out] at ho
            have O4 := hide ho
            clear ho
            go_wp2
            go_roundw
            case rel => exact ⟨k + 1, by omega, by go_num, O4.out, B3.out⟩
            case measure => simp [intOf]; omega
    · obtain rfl : k = vs.length := by omega
      have ho := O.out
      rw [List.take_length] at ho
      have O4 := hide ho
      clear ho
      go_wp2
      go_ret
      exact ⟨_, rfl, ownsRow_mono O4.out A0.out.below.size, (A0.out.step B.out).below⟩

/-- A pool in the variable gO that is built up; all else lies below W. -/
structure PT (W w : World) (gO : Nat) (p r : Value) (us : List Value) (xs : List Nd) (rs : List Int) : Prop where
  br : BrV w W.heap.size w.heap.size p [r] us [rs] xs
  out : BoxAt w gO #[p, r] 43
  l2 : W.heap.size ≤ gO
  low : Below W.heap.size W w
section
variable {W w w' : World} {gO : Nat} {p r : Value} {us : List Value} {xs : List Nd} {rs : List Int}
theorem PT.step (h : PT W w gO p r us xs rs) (hb : Below w.heap.size w w') : PT W w' gO p r us xs rs :=
  ⟨(h.br.below hb).wider (Nat.le_refl _) hb.size, h.out.below hb, h.l2, h.low.trans (hb.mono h.low.size)⟩
theorem PT.start {v : Value} {vs : List Int} {w6 : World} (ho : Own w6 W.heap.size v vs) (hb : Below W.heap.size W w6) : PT W (w6.alloc (.cells #[.slice none 0 0, v] 43)) w6.heap.size (.slice none 0 0) v [] [] vs := by
  have bb := below_box w6 (.cells #[.slice none 0 0, v] 43)
  have o2 := Own.below ho bb
  refine ⟨(BrV.nil _ W.heap.size W.heap.size).addE o2 (Nat.le_trans hb.size bb.size) (fun b hb' => ⟨(World.ownsRow.lt o2 b hb').2, (World.ownsRow.lt o2 b hb').1⟩), BoxAt.new _ _ _, hb.size, hb.trans (bb.mono hb.size)⟩
theorem PT.appR {v' : Value} {rs' : List Int} (h : PT W w gO p r us xs rs) (ho : Own w' W.heap.size v' rs') (hg : w.grownBy w' r.ownBlock) (hat : v'.ownBlock = r.ownBlock ∨ v'.ownBlock = some w.heap.size) :
    BoxAt w' gO #[p, r] 43 ∧ PT W (w'.setCell ⟨gO, 1, none⟩ v') gO p v' us xs rs' ∧ Below W.heap.size W w' := by
  have hr := h.br.rowE 0 (by simp)
  have d6 := h.br.appE 0 (by simp) ho hg hat (Nat.le_refl _)
  have o6 := h.out.kept hg (h.out.offT hr (by decide))
  have b6 : Below W.heap.size W w' := h.low.grown hg h.low.size (fun k hk => (World.ownsRow.lt hr k hk).1)
  refine ⟨o6, ⟨?_, by simpa using o6.set 1 v', h.l2, b6.setCell h.l2 _⟩, b6⟩
  have d7 := d6.atBox o6 (by decide) (by decide) 1 v'
  simpa using d7
theorem PT.appB {v' : Value} {us' : List Value} {xs' : List Nd} (h : PT W w gO p r us xs rs) (hn : BrV w' W.heap.size w'.heap.size v' [r] us' [rs] xs') (hg : w.grownBy w' p.ownBlock) :
    BoxAt w' gO #[p, r] 43 ∧ PT W (w'.setCell ⟨gO, 0, none⟩ v') gO v' r us' xs' rs ∧ Below W.heap.size W w' := by
  have o6 := h.out.kept hg (h.out.offT h.br.head (by decide))
  have b6 : Below W.heap.size W w' := h.low.grown hg h.low.size (fun k hk => (World.ownsRow.lt h.br.head k hk).1)
  refine ⟨o6, ⟨?_, by simpa using o6.set 0 v', h.l2, b6.setCell h.l2 _⟩, b6⟩
  have d7 := hn.atBox o6 (by decide) (by decide) 0 v'
  simpa using d7
theorem PT.fin {W0 : World} {gR : Nat} (h : PT W w gO p r us xs rs) (hr : BoxAt W gR nilP 43) (h0 : Below W0.heap.size W0 W) (hg : W0.heap.size ≤ gR) : BoxAt ((w.setCell ⟨gR, 0, none⟩ p).setCell ⟨gR, 1, none⟩ r) gR #[p, r] 43 ∧
    TPol p r xs rs W0.heap.size ((w.setCell ⟨gR, 0, none⟩ p).setCell ⟨gR, 1, none⟩ r).heap.size ((w.setCell ⟨gR, 0, none⟩ p).setCell ⟨gR, 1, none⟩ r) ∧ Below W0.heap.size W0 ((w.setCell ⟨gR, 0, none⟩ p).setCell ⟨gR, 1, none⟩ r) := by
  have hres := hr.below h.low
  refine ⟨hres.store2P p r, ⟨us, ?_⟩, ((h0.trans (h.low.mono h0.size)).setCell hg _).setCell hg _⟩
  have d := (h.br.atBox hres (by decide) (by decide) 0 p).atBox (hres.set 0 p) (by decide) (by decide) 1 r
  exact d.wider h0.size (by simp)
end
end Go.Proofs.Ythmijjcddjlebaa
