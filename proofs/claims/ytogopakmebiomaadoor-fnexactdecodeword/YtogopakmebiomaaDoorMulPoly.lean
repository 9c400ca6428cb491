/-
  The product of two polynomials: the program's MulPoly and its model's at every argument that can be read, call by call: both answer the same list, of new memory, and the same word. The program's table of rests must hold its seven numbers where the program's own function is called.
-/
import Derived.Test.YtogopakmebiomaaDoorPolyR
namespace Go.Proofs.YtogopakmebiomaaDoor
open Go.RowKit
namespace Gf

theorem own_nil (w : World) (base : Nat) : Own w base (.slice none 0 0) [] := World.ownsRow_nil _ _ _ _
theorem mulR_badx {xs ys : List Int} (h : goodP xs = false) : mulR xs ys = ([], false) := by simp [mulR, h]
theorem mulR_bady {xs ys : List Int} (h : goodP ys = false) : mulR xs ys = ([], false) := by simp [mulR, h]
theorem mulR_empty {xs ys : List Int} (hx : goodP xs = true) (hy : goodP ys = true) (h : xs.length = 0 ∨ ys.length = 0) : mulR xs ys = ([], true) := by
  unfold mulR
  rw [if_pos ⟨hx, hy⟩, if_pos h]
theorem mulR_long {xs ys : List Int} (hx : goodP xs = true) (hy : goodP ys = true) (h : ¬ (xs.length = 0 ∨ ys.length = 0)) (hl : 40 < xs.length + ys.length - 1) : mulR xs ys = ([], false) := by
  unfold mulR
  rw [if_pos ⟨hx, hy⟩, if_neg h, if_pos hl]
theorem mulR_fit {xs ys : List Int} (hx : goodP xs = true) (hy : goodP ys = true) (h : ¬ (xs.length = 0 ∨ ys.length = 0)) (hl : ¬ 40 < xs.length + ys.length - 1) :
    mulR xs ys = (ci (mp (nat xs) (nat ys) (List.replicate (xs.length + ys.length - 1) 0) xs.length), true) := by
  unfold mulR
  rw [if_pos ⟨hx, hy⟩, if_neg h, if_neg hl]

set_option maxRecDepth 100000 in
set_option maxHeartbeats 1600000 in
theorem mulPoly_calls (pv qv : Value) (xs ys : List Int) (w : World) (hT : Tab w) (hp : Rd w pv xs) (hq : Rd w qv ys) :
    Calls Tryd.prog 66 #[pv, qv] w fun e w' => ∃ v', e = .returned (.tuple #[v', .bool (mulR xs ys).2]) ∧ Own w' w.heap.size v' (mulR xs ys).1 ∧ Below w.heap.size w w' := by
  have T := hide hT
  have P := hide hp
  have Q := hide hq
  clear hT hp hq
  cases hgx : goodP xs with
  | false =>
    have G := hide hgx
    rw [mulR_badx hgx]
    clear hgx
    go_enter Tryd.func66, Tryd.ntmps66
    go_wp2_with (go_at_call 124; refine (isPoly_calls pv xs _ P.out).mono ?_; rw [G.out]; rintro e w' ⟨rfl, rfl⟩)
    go_ret2
    exact ⟨_, rfl, own_nil _ _, Below.refl _ _⟩
  | true =>
    have G := hide hgx
    cases hgy : goodP ys with
    | false =>
      have G2 := hide hgy
      rw [mulR_bady hgy]
      clear hgx hgy
      go_enter Tryd.func66, Tryd.ntmps66
      go_wp2_with fail
      refine (isPoly_calls pv xs _ P.out).mono ?_
      rw [G.out]
      rintro e w' ⟨rfl, rfl⟩
      go_wp2_with fail
      refine (isPoly_calls qv ys _ Q.out).mono ?_
      rw [G2.out]
      rintro e w' ⟨rfl, rfl⟩
      go_wp2
      go_ret2
      exact ⟨_, rfl, own_nil _ _, Below.refl _ _⟩
    | true =>
      have G2 := hide hgy
      have lx := goodP_len hgx
      have ly := goodP_len hgy
      obtain ⟨pa, pcap, rfl, _, _, _⟩ := P.out
      obtain ⟨qa, qcap, rfl, _, _, _⟩ := Q.out
      by_cases he : xs.length = 0 ∨ ys.length = 0
      · rw [mulR_empty hgx hgy he]
        clear hgx hgy
        by_cases h0 : xs.length = 0
        · have t1 : ((xs.length : Int) == 0) = true := by simp [h0]
          clear he h0
          go_enter Tryd.func66, Tryd.ntmps66
          go_wp2_with fail
          refine (isPoly_calls _ xs _ P.out).mono ?_
          rw [G.out]
          rintro e w' ⟨rfl, rfl⟩
          go_wp2_with fail
          refine (isPoly_calls _ ys _ Q.out).mono ?_
          rw [G2.out]
          rintro e w' ⟨rfl, rfl⟩
          go_wp2
          go_ret2
          exact ⟨_, rfl, own_nil _ _, Below.refl _ _⟩
        · have t1 : ((xs.length : Int) == 0) = false := by simp; intro e; simp [e] at h0
          have t2 : ((ys.length : Int) == 0) = true := by simp; rcases he with h | h
                                                          · exact absurd h h0
                                                          · exact List.eq_nil_of_length_eq_zero h
          clear he h0
          go_enter Tryd.func66, Tryd.ntmps66
          go_wp2_with fail
          refine (isPoly_calls _ xs _ P.out).mono ?_
          rw [G.out]
          rintro e w' ⟨rfl, rfl⟩
          go_wp2_with fail
          refine (isPoly_calls _ ys _ Q.out).mono ?_
          rw [G2.out]
          rintro e w' ⟨rfl, rfl⟩
          go_wp2
          go_ret2
          exact ⟨_, rfl, own_nil _ _, Below.refl _ _⟩
      · have t1 : ((xs.length : Int) == 0) = false := by simp; intro e; simp [e] at he
        have t2 : ((ys.length : Int) == 0) = false := by simp; intro e; simp [e] at he
        have p1 : 0 < xs.length := by omega
        have p2 : 0 < ys.length := by omega
        by_cases hl : 40 < xs.length + ys.length - 1
        · rw [mulR_long hgx hgy he hl]
          have t3 : (40 : Int) < (xs.length : Int) + (ys.length : Int) - 1 := by omega
          clear hgx hgy he hl
          go_enter Tryd.func66, Tryd.ntmps66
          go_wp2_with fail
          refine (isPoly_calls _ xs _ P.out).mono ?_
          rw [G.out]
          rintro e w' ⟨rfl, rfl⟩
          go_wp2_with fail
          refine (isPoly_calls _ ys _ Q.out).mono ?_
          rw [G2.out]
          rintro e w' ⟨rfl, rfl⟩
          go_wp2
          go_ret2
          exact ⟨_, rfl, own_nil _ _, Below.refl _ _⟩
        · rw [mulR_fit hgx hgy he hl]
          have t3 : ¬ (40 : Int) < (xs.length : Int) + (ys.length : Int) - 1 := by omega
          have GX := hide (goodP_mem hgx)
          have GY := hide (goodP_mem hgy)
          obtain ⟨n, hn⟩ : ∃ n, n = xs.length + ys.length - 1 := ⟨_, rfl⟩
          rw [← hn]
          have en : (xs.length : Int) + (ys.length : Int) - 1 = (n : Int) := by omega
          have hn40 : n ≤ 40 := by omega
          have HN := hide hn
          clear hgx hgy he hl hn
          go_enter Tryd.func66, Tryd.ntmps66
          go_wp2_with fail
          refine (isPoly_calls _ xs _ P.out).mono ?_
          rw [G.out]
          rintro e w' ⟨rfl, rfl⟩
          go_wp2_with fail
          refine (isPoly_calls _ ys _ Q.out).mono ?_
          rw [G2.out]
          rintro e w' ⟨rfl, rfl⟩
          go_wp2_with (at_make; refine wpList_make_ints rfl _ _ rfl w.heap.size _ _ n rfl rfl (by omega) (by omega) (by omega) (Nat.le_refl _) ?_; intro w0 hown0 hgrow0)
          have B0 := hide ((Below.refl w.heap.size w).grown hgrow0 (Nat.le_refl _) (fun k h => by cases h))
          have O0 : Hid (w0.ownsRow w.heap.size 3 1 (.slice (some ⟨w.heap.size, 0, none⟩) n n) n ((ci (mp (nat xs) (nat ys) (List.replicate n 0) 0)).map (Value.int .i64))) := by
            have := hown0
            unfold Own at this
            rw [List.length_replicate] at this
            have e : (ci (mp (nat xs) (nat ys) (List.replicate n 0) 0)).map (Value.int .i64) = (List.replicate n (0 : Int)).map (Value.int .i64) := by simp [mp, ci]
            rw [← e] at this
            exact this
          clear hown0 hgrow0
          go_loopw [41] (fun vi wr => ∃ k : Nat, k ≤ xs.length ∧ vi = .int .i64 k ∧ wr.ownsRow w.heap.size 3 1 (.slice (some ⟨w.heap.size, 0, none⟩) n n) n ((ci (mp (nat xs) (nat ys) (List.replicate n 0) k)).map (Value.int .i64)) ∧ Below w.heap.size w wr) (fun vi _ => xs.length - (intOf vi).toNat)
          case atStart => exact ⟨0, Nat.zero_le _, rfl, O0.out, B0.out⟩
          case round =>
            obtain ⟨k, hk, rfl, hown, hb⟩ := hrel
            by_cases hlt : k < xs.length
            · have hRd := P.out.below hb
              obtain ⟨pa', pcap', hv, _, _, h3⟩ := hRd
              have hv2 : pa' = pa := by simp at hv; exact hv.1.symm
              subst hv2
              clear hv
              rcases h3 with h3 | ⟨b, off, rfl, hbs, hc⟩
              · subst h3; simp at hlt
              have hc1 := hc k hlt
              clear hc
              obtain ⟨z, hz⟩ : ∃ z, z = xs.getD k 0 := ⟨_, rfl⟩
              have hzb : 0 ≤ z ∧ z ≤ 255 := by rw [hz]; exact goodP_all G.out k hlt
              rw [← hz] at hc1
              have hzn : Hid (z.toNat = (nat xs).getD k 0) := by
                show z.toNat = _
                rw [hz]
                simp only [nat, List.getD_eq_getElem?_getD, List.getElem?_map]
                cases xs[k]? <;> simp
              clear hz
              have O := hide hown
              have Bk := hide hb
              clear hown hb
              have hlen : (mp (nat xs) (nat ys) (List.replicate n 0) k).length = n := by rw [mp_length, List.length_replicate]
              have HL := hide hlen
              clear hlen
              have keep : Hid (∀ w', wr.grownBy w' (some w.heap.size) → Below w.heap.size w w') := fun w' hg => Bk.out.grown hg Bk.out.size (fun k h => by simp at h; omega)
              go_wp2_with fail
              refine (addMultiple_calls _ _ (mp (nat xs) (nat ys) (List.replicate n 0) k) (nat ys) _ _ w.heap.size _ (fun w' hg => T.out.below (keep.out w' hg)) ?o1 ?q1 hzb.1 (by omega) (by omega) ?f1 ?f2 (mp_lt (allLt_zeros n) (nat_ltp GX.out) k) (nat_ltp GY.out) ?f3).mono ?_
              case o1 =>
                show World.ownsRow _ _ _ _ _ (ci _).length _
                rw [ci_length, HL.out]
                exact O.out
              case q1 =>
                intro w' hg
                rw [ci_natp GY.out]
                exact Q.out.below (keep.out w' hg)
              case f1 => rw [nat_length, HL.out]; have := HN.out; omega
              case f2 => rw [HL.out]; omega
              case f3 => rw [HL.out]; omega
              rintro e w2 ⟨rfl, hown2, hg2⟩
              have O2 : Hid (w2.ownsRow w.heap.size 3 1 (.slice (some ⟨w.heap.size, 0, none⟩) n n) n ((ci (mp (nat xs) (nat ys) (List.replicate n 0) (k + 1))).map (Value.int .i64))) := by
                have h := hown2
                unfold Own at h
                rw [ci_length, amTo_length, HL.out, hzn.out, Int.toNat_natCast] at h
                exact h
              have B2 := hide (keep.out w2 hg2)
              clear hown2 hg2
              go_wp2
              go_roundw
              case rel => exact ⟨k + 1, by omega, by go_num, O2.out, B2.out⟩
              case measure => simp [intOf]; omega
            · obtain rfl : k = xs.length := by omega
              go_wp2
              go_ret2
              refine ⟨_, rfl, ?_, hb⟩
              show World.ownsRow _ _ _ _ _ (ci _).length _
              rw [ci_length, mp_length, List.length_replicate]
              exact hown

theorem own_cell {w : World} {base g n cap : Nat} {l : List Nat} (h : w.ownsRow base 3 1 (.slice (some ⟨g, 0, none⟩) n cap) n ((ci l).map (Value.int .i64))) (i : Nat) (hi : i < l.length) :
    w.cell? ⟨g, i, none⟩ = some (.int .i64 (l.getD i 0 : Nat)) := by
  have hn : l.length = n := by have := h.1; simpa [ci] using this
  rw [h.cellAt i (by omega), List.getElem?_map]
  have hl : i < (ci l).length := by rw [ci_length]; exact hi
  rw [List.getElem?_eq_getElem hl]
  have := ci_getD l i
  rw [List.getD_eq_getElem?_getD, List.getElem?_eq_getElem hl, Option.getD_some] at this
  rw [this]; rfl

set_option maxRecDepth 100000 in
set_option maxHeartbeats 1600000 in
theorem l1MulPoly_calls (pv qv : Value) (xs ys : List Int) (w : World) (hp : Rd w pv xs) (hq : Rd w qv ys) (hx : goodP xs = true) (hy : goodP ys = true) :
    Calls Tryd.prog 122 #[pv, qv] w fun e w' => ∃ v', e = .returned v' ∧ Own w' w.heap.size v' (cutL (ci (mp (nat xs) (nat ys) (List.replicate (xs.length + ys.length) 0) xs.length))) ∧ Below w.heap.size w w' := by
  have P := hide hp
  have Q := hide hq
  have GX := hide (goodP_mem hx)
  have GY := hide (goodP_mem hy)
  have lx := goodP_len hx
  have ly := goodP_len hy
  have AX := hide (goodP_all hx)
  have AY := hide (goodP_all hy)
  clear hx hy
  obtain ⟨pa, pcap, rfl, _, _, _⟩ := hp
  obtain ⟨qa, qcap, rfl, _, _, _⟩ := hq
  obtain ⟨n, hn⟩ : ∃ n, n = xs.length + ys.length := ⟨_, rfl⟩
  rw [← hn]
  have en : (xs.length : Int) + (ys.length : Int) = (n : Int) := by omega
  have hn80 : n ≤ 80 := by omega
  have HN := hide hn
  clear hn
  go_enter Tryd.func122, Tryd.ntmps122
  go_wp2_with (at_make; refine wpList_make_ints rfl _ _ rfl w.heap.size _ _ n rfl rfl (by omega) (by omega) (by omega) (Nat.le_refl _) ?_; intro w0 hown0 hgrow0)
  have B0 := hide ((Below.refl w.heap.size w).grown hgrow0 (Nat.le_refl _) (fun k h => by cases h))
  have O0 : Hid (w0.ownsRow w.heap.size 3 1 (.slice (some ⟨w.heap.size, 0, none⟩) n n) n ((ci (mp (nat xs) (nat ys) (List.replicate n 0) 0)).map (Value.int .i64))) := by
    have := hown0
    unfold Own at this
    rw [List.length_replicate] at this
    have e : (ci (mp (nat xs) (nat ys) (List.replicate n 0) 0)).map (Value.int .i64) = (List.replicate n (0 : Int)).map (Value.int .i64) := by simp [mp, ci]
    rw [← e] at this
    exact this
  clear hown0 hgrow0
  go_loopw [18] (fun vi wr => ∃ k : Nat, k ≤ xs.length ∧ vi = .int .i64 k ∧ wr.ownsRow w.heap.size 3 1 (.slice (some ⟨w.heap.size, 0, none⟩) n n) n ((ci (mp (nat xs) (nat ys) (List.replicate n 0) k)).map (Value.int .i64)) ∧ Below w.heap.size w wr) (fun vi _ => xs.length - (intOf vi).toNat)
  case atStart => exact ⟨0, Nat.zero_le _, rfl, O0.out, B0.out⟩
  case round =>
    obtain ⟨k, hk, rfl, hown, hb⟩ := hrel
    by_cases hlt : k < xs.length
    · have hRd := P.out.below hb
      obtain ⟨pa', pcap', hv, _, _, h3⟩ := hRd
      have hv2 : pa' = pa := by simp at hv; exact hv.1.symm
      subst hv2
      clear hv
      rcases h3 with h3 | ⟨b, off, rfl, hbs, hc⟩
      · subst h3; simp at hlt
      have hc1 := hc k hlt
      clear hc
      obtain ⟨F, hF⟩ : ∃ F, F = (nat xs).getD k 0 := ⟨_, rfl⟩
      have hFx : xs.getD k 0 = (F : Int) := by
        have := ci_getD (nat xs) k
        rw [ci_natp GX.out] at this
        rw [this, hF]
      have hF256 : F < 256 := by have := AX.out k hlt; omega
      rw [hFx] at hc1
      have HF := hide hF
      clear hF hFx
      have O := hide hown
      have Bk := hide hb
      have HL : Hid ((mp (nat xs) (nat ys) (List.replicate n 0) k).length = n) := by
        show _ = _
        rw [mp_length, List.length_replicate]
      clear hown hb
      go_wp2
      go_loopw [25] (fun vj wi => ∃ j : Nat, j ≤ ys.length ∧ vj = .int .i64 j ∧ wi.ownsRow w.heap.size 3 1 (.slice (some ⟨w.heap.size, 0, none⟩) n n) n ((ci (amTo (mp (nat xs) (nat ys) (List.replicate n 0) k) (nat ys) F k j)).map (Value.int .i64)) ∧ Below w.heap.size w wi) (fun vj _ => ys.length - (intOf vj).toNat)
      case atStart => exact ⟨0, Nat.zero_le _, rfl, O.out, Bk.out⟩
      case round =>
        obtain ⟨j, hj, rfl, hown, hb⟩ := hrel
        by_cases hlj : j < ys.length
        · have hRd := Q.out.below hb
          obtain ⟨qa', qcap', hv, _, _, h3⟩ := hRd
          have hv2 : qa' = qa := by simp at hv; exact hv.1.symm
          subst hv2
          clear hv
          rcases h3 with h3 | ⟨b2, off2, rfl, hbs2, hc⟩
          · subst h3; simp at hlj
          have hc2 := hc j hlj
          clear hc
          obtain ⟨Z, hZ⟩ : ∃ Z, Z = (nat ys).getD j 0 := ⟨_, rfl⟩
          have hZy : ys.getD j 0 = (Z : Int) := by
            have := ci_getD (nat ys) j
            rw [ci_natp GY.out] at this
            rw [this, hZ]
          have hZ256 : Z < 256 := by have := AY.out j hlj; omega
          rw [hZy] at hc2
          have HZ := hide hZ
          clear hZ hZy
          have hkj : k + j < n := by have := HN.out; omega
          have hc3 := hown.frozenAt (k + j)
          obtain ⟨y, hy⟩ : ∃ y, y = (amTo (mp (nat xs) (nat ys) (List.replicate n 0) k) (nat ys) F k j).getD (k + j) 0 := ⟨_, rfl⟩
          have hy256 : y < 256 := by
            rw [hy]
            exact amTo_lt (mp_lt (allLt_zeros n) (nat_ltp GX.out) k) hF256 j _
          have hc4 := own_cell hown (k + j) (by rw [amTo_length, HL.out]; exact hkj)
          rw [← hy] at hc4
          have HY := hide hy
          clear hy
          have O2 := hide hown
          have B2 := hide hb
          clear hown hb
          have e1 : ((k : Int) + (j : Int)).toNat = k + j := by omega
          have i1 : (0 : Int) ≤ (k : Int) + (j : Int) := by omega
          have i2 : (k : Int) + (j : Int) < (n : Int) := by omega
          have i3 : (j : Int) < (ys.length : Int) := by omega
          have i4 : IntKind.i64.wrap ((k : Int) + (j : Int)) = (k : Int) + (j : Int) := by rw [wrap_i64]; omega
          go_wp2
          go_region_with (go_at_call 128; refine (l1Mul_calls _ _ _ (by omega) (by omega) (by omega) (by omega)).mono ?_; rintro e w' ⟨rfl, rfl⟩)
          all_goals
            go_wp2
            go_roundw
            case rel =>
              refine ⟨j + 1, by omega, by go_num, ?_, ?_⟩
              · have h := (O2.out.stored (k + j) (.int .i64 (y ^^^ mul F Z : Nat))).1
                rw [← List.map_set, ci_set, HY.out, HZ.out] at h
                rw [i64_xor _ _ (by omega) (by have := mul_lt (a := F) (b := Z) (by omega); omega), HY.out, HZ.out]
                exact h.drew
              · exact (B2.out.setCell (Nat.le_refl _) _).drew
            case measure => simp [intOf]; omega
        · obtain rfl : j = ys.length := by omega
          have O2 : Hid (_ ∧ _) := And.intro hown hb
          clear hown hb
          go_wp2
          go_roundw
          case rel =>
            refine ⟨k + 1, by omega, by go_num, ?_, O2.out.2⟩
            have h := O2.out.1
            have e : mp (nat xs) (nat ys) (List.replicate n 0) (k + 1) = amTo (mp (nat xs) (nat ys) (List.replicate n 0) k) (nat ys) F k ys.length := by
              rw [mp, HF.out, nat_length]
            rw [e]
            exact h
          case measure => simp [intOf]; omega
    · obtain rfl : k = xs.length := by omega
      have hfin : Own wr w.heap.size (.slice (some ⟨w.heap.size, 0, none⟩) n n) (ci (mp (nat xs) (nat ys) (List.replicate n 0) xs.length)) := by
        show World.ownsRow _ _ _ _ _ (ci _).length _
        rw [ci_length, mp_length, List.length_replicate]
        exact hown
      have F := hide hfin
      have Bk := hide hb
      clear hown hb hfin
      go_wp2_with fail
      refine (l1Cut_calls _ _ _ F.out.rd (by rw [ci_length, mp_length, List.length_replicate]; omega)).mono ?_
      rintro e w2 ⟨v', rfl, ho2, hb2⟩
      have O2 := hide (Own.mono ho2 Bk.out.size)
      have B2 := hide (Bk.out.trans (hb2.mono Bk.out.size))
      clear ho2 hb2
      go_wp2
      go_ret
      exact ⟨_, rfl, O2.out, B2.out⟩

theorem mp_nil_p {q s0 : List Nat} : mp [] q s0 0 = s0 := rfl
theorem cut_empty {xs ys : List Int} (h : xs.length = 0 ∨ ys.length = 0) : cutL (ci (mp (nat xs) (nat ys) (List.replicate (xs.length + ys.length) 0) xs.length)) = [] := by
  rcases h with h | h
  · have : xs = [] := List.eq_nil_of_length_eq_zero h
    subst this
    exact cutL_zeros _
  · have : ys = [] := List.eq_nil_of_length_eq_zero h
    subst this
    show cutL (ci (mp (nat xs) [] _ _)) = []
    rw [mp_nil_q]
    exact cutL_zeros _

end Gf
end Go.Proofs.YtogopakmebiomaaDoor
