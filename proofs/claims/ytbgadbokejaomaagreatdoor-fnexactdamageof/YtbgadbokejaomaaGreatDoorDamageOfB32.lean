/-
  What a stripe's sectors tell, by the model: l7Read, l8Seen, l8Right, call by call. Each contract says what it asks.
-/
import Derived.Test.YtbgadbokejaomaaGreatDoorDamageOfB31
import Derived.Test.YtbgadbokejaomaaGreatDoorDamageOfB17
namespace Go.Proofs.YtbgadbokejaomaaGreatDoor
open Go.RowKit
set_option linter.unusedVariables false

/-- 'append(out, row)', the world told whole. -/
theorem wpList_append_row2 {w W1 : World} {ops : Array Oper} {rest : List Oper} {o : Oper} {a : Act} {Q : Exit → Act → World → Prop} (hgd : o.guard = none) (s x : Operand)
    (ho : o.op = .call { callee := .builtin .append, args := #[s, x], argTypes := #[115, 115] })
    (lo hi : Nat) (v : Value) (vs : List Value) (m : List (List Int)) (hs : a.eval s = v) (h : MatV w lo hi v vs m) (hb : Below w.heap.size w W1) (u : Value) (r : List Int) (hu : Own W1 w.heap.size u r) (hh : hi ≤ w.heap.size) (hlo : lo ≤ w.heap.size)
    (g : Nat) (hx : a.eval x = .slice (some ⟨g, 0, none⟩) 1 1) (hcell : W1.cell? ⟨g, 0, none⟩ = some u) (hn : m.length ≤ 1048576)
    (K : ∀ v' w2, w2.ownsRow lo 27 1 v' (m.length + 1) (vs ++ [u]) → W1.grownBy w2 v.ownBlock → wpList Tryz.prog ops Q rest (a.put o.dst v') w2) : wpList Tryz.prog ops Q (o :: rest) a W1 := by
  obtain ⟨i0, hi0, hz0, hz1, hz2⟩ := info_parts infoRow
  have hsz := hb.size
  refine wpList_append_own (w := W1) hgd s x _ ho lo _ i0 (.slice none 0 0) 1 24 Tryz.underlying115 hi0 hz0 hz1 hz2 rfl (by decide) v m.length vs hs (ownsRow_below h.head hb) ⟨g, 0, none⟩ 1 1 [u] hx (by simp) ?_ ?_ (by unfold maxLen; omega) (by omega) (by omega) ?_
  · intro j y hj
    cases j with
    | zero =>
      simp at hj
      subst hj
      have hadd : (⟨g, 0, none⟩ : Addr).add 0 = ⟨g, 0, none⟩ := by unfold Addr.add; split <;> simp_all
      rw [hadd]; exact hcell
    | succ j => simp at hj
  · intro y hy
    simp at hy
    subst hy
    obtain ⟨xa, xn, xc, rfl⟩ := hu.shape
    rfl
  · intro v' w2 ho2 hg2 _
    exact K v' w2 ho2 hg2

/-- Rows and Epochs that grow side by side. -/
structure Sn (w : World) (lo hi : Nat) (vm ve : Value) (vs : List Value) (m : List (List Int)) (es : List Int) : Prop where
  mat : MatV w lo hi vm vs m
  ep : Own w lo ve es
  te : ∀ k, ve.ownBlock = some k → k < hi
  ne : ∀ i, i < m.length → (vs.getD i nilRow).ownBlock = none ∨ (vs.getD i nilRow).ownBlock ≠ ve.ownBlock
theorem Sn.below {w w' : World} {lo hi : Nat} {vm ve : Value} {vs : List Value} {m : List (List Int)} {es : List Int} (h : Sn w lo hi vm ve vs m es) (hb : Below w.heap.size w w') : Sn w' lo hi vm ve vs m es := ⟨h.mat.below hb, h.ep.below hb, h.te, h.ne⟩
theorem Sn.push {w w1 w2 : World} {lo : Nat} {vm v' ve u : Value} {vs : List Value} {m : List (List Int)} {es r : List Int} (h : Sn w lo w.heap.size vm ve vs m es) (hb : Below w.heap.size w w1) (ho : Own w1 w.heap.size u r) (hlo : lo ≤ w.heap.size)
    (ho2 : w2.ownsRow lo 27 1 v' (m.length + 1) (vs ++ [u])) (hg : w1.grownBy w2 vm.ownBlock) : Sn w2 lo w2.heap.size v' ve (vs ++ [u]) (m ++ [r]) es := by
  have hs1 := hb.size
  have hs2 := hg.size
  refine ⟨h.mat.push hb ho (Nat.le_refl _) hlo ho2 hg, World.ownsRow.kept (h.ep.below hb) hg (heads_apart' h.mat.head h.ep), fun k hk => by have := h.te k hk; omega, fun j hj => ?_⟩
  rw [List.length_append, List.length_singleton] at hj
  by_cases e : j = m.length
  · subst e
    have : (vs ++ [u]).getD m.length nilRow = u := by
      rw [List.getD_eq_getElem?_getD, List.getElem?_append_right (by rw [h.mat.len]; exact Nat.le_refl _), h.mat.len, Nat.sub_self]
      rfl
    rw [this]
    cases hu : u.ownBlock with
    | none => exact .inl rfl
    | some b =>
      right
      intro e'
      have h1 := (World.ownsRow.lt ho b hu).1
      have h2 := h.te b e'.symm
      omega
  · have : (vs ++ [u]).getD j nilRow = vs.getD j nilRow := by
      simp only [List.getD_eq_getElem?_getD]
      rw [List.getElem?_append_left (by rw [h.mat.len]; omega)]
    rw [this]
    exact h.ne j (by omega)
theorem Sn.grow {w w' : World} {lo hi g n cap : Nat} {vm ve : Value} {vs : List Value} {m : List (List Int)} {es : List Int} {z : Int} (h : Sn w lo hi vm ve vs m es) (hh : hi ≤ w.heap.size)
    (h1 : w'.ownsRow lo 3 1 (.slice (some ⟨g, 0, none⟩) (n + 1) cap) (n + 1) (es.map (Value.int .i64) ++ [Value.int .i64 z])) (hn : es.length = n) (h2 : w.grownBy w' ve.ownBlock) (h3 : ve.ownBlock = some g ∨ g = w.heap.size) (h4 : g < w'.heap.size) :
    Sn w' lo w'.heap.size vm (.slice (some ⟨g, 0, none⟩) (n + 1) cap) vs m (es ++ [z]) := by
  have hs : w.heap.size ≤ w'.heap.size := h2.size
  refine ⟨⟨h.mat.len, World.ownsRow.kept h.mat.head h2 (heads_apart h.mat.head h.ep), fun i hi => World.ownsRow.kept (h.mat.row i hi) h2 (h.ne i hi), fun k hk => by have := h.mat.top k hk; omega, fun i k hi hk => by have := h.mat.tops i k hi hk; omega, h.mat.apart⟩, ?_, fun k hk => ?_, fun i hi => ?_⟩
  · show World.ownsRow _ _ _ _ _ (es ++ [z]).length _
    rw [List.length_append, hn, List.map_append]
    exact h1
  · simp [Value.ownBlock] at hk
    omega
  · rcases h.ne i hi with e | e
    · exact .inl e
    · cases hv : (vs.getD i nilRow).ownBlock with
      | none => exact .inl rfl
      | some x =>
        right
        show some x ≠ some g
        intro ee
        simp only [Option.some.injEq] at ee
        subst ee
        rcases h3 with h3 | h3
        · exact e (by rw [hv, h3])
        · have := h.mat.tops i x hi hv
          omega
theorem Sn.nil (w : World) (lo hi : Nat) : Sn w lo hi nilRow nilRow [] [] [] := ⟨⟨rfl, World.ownsRow_nil _ _ _ _, fun i hi => by simp at hi, fun k hk => by simp [Value.ownBlock] at hk, fun i k hi => by simp at hi, fun i j hi => by simp at hi⟩, World.ownsRow_nil _ _ _ _, fun k hk => by simp [Value.ownBlock] at hk, fun i hi => by simp at hi⟩
theorem take_next (s : List (List Int)) (k : Nat) (h : k < s.length) : s.take (k + 1) = s.take k ++ [s.getD k []] := by
  rw [List.take_succ_eq_append_getElem h, List.getD_eq_getElem?_getD, List.getElem?_eq_getElem h]
  rfl
theorem take_nextI (s : List Int) (k : Nat) (h : k < s.length) : s.take (k + 1) = s.take k ++ [s.getD k 0] := by
  rw [List.take_succ_eq_append_getElem h, List.getD_eq_getElem?_getD, List.getElem?_eq_getElem h]
  rfl
/-- The bodies, as elements. -/
def elB (l : List Nat) : List Int := l.map fun b : Nat => (b : Int)
def bdL (xs : List Pc) : List (List Int) := xs.map fun x => elB (bdo x)
theorem bdL_length (xs : List Pc) : (bdL xs).length = xs.length := by simp [bdL]
theorem bdL_get (xs : List Pc) (k : Nat) (h : k < xs.length) : (bdL xs).getD k [] = elB (bdo (xs.getD k none)) := by
  unfold bdL
  rw [List.getD_eq_getElem?_getD, List.getD_eq_getElem?_getD, List.getElem?_map, List.getElem?_eq_getElem h]
  rfl
theorem elB_length (l : List Nat) : (elB l).length = l.length := by simp [elB]
theorem elB_get (l : List Nat) (k : Nat) : (elB l).getD k 0 = ((l.getD k 0 : Nat) : Int) := by
  unfold elB
  rw [List.getD_eq_getElem?_getD, List.getElem?_map, List.getD_eq_getElem?_getD]
  cases l[k]? <;> rfl

set_option maxRecDepth 100000 in
set_option maxHeartbeats 6400000 in
theorem l8Seen_calls (p h b : Value) (P H : List ByteArray) (B : List Bool) (A : Nat) (least : Int) (w : World) (gk : gkP P H B) (hA : A + 5 ≤ P.length) (hp : RdT w p P) (hh : RdT w h H) (hb : RdZ w b B) :
    Calls Tryz.prog 148 #[.agg #[p, h, b], .int .i64 (A : Int), .int .i64 least] w fun e w' => ∃ vm ve vs, e = .returned (.tuple #[vm, ve]) ∧ Sn w' w.heap.size w'.heap.size vm ve vs (bdL (skL P H B least A)) ((skL P H B least A).map epo) ∧ Below w.heap.size w w' := by
  have GK := hide gk
  have h24 : P.length ≤ 24 := gk.1.2
  obtain ⟨W0, hW⟩ : ∃ W0, W0 = w.alloc (.cells #[p, h, b] 26) := ⟨_, rfl⟩
  have b0 : Below w.heap.size w W0 := by rw [hW]; exact below_box _ _
  have bx : BoxAt W0 w.heap.size #[p, h, b] 26 := by rw [hW]; exact BoxAt.new _ _ _
  have RP := hide (hp.below b0)
  have RH := hide (hh.below b0)
  have RB := hide (hb.below b0)
  have BX := hide bx
  have BW := hide b0
  have HW := hide hW
  obtain ⟨xs, hxs⟩ : ∃ xs, xs = skL P H B least A := ⟨_, rfl⟩
  have xl : xs.length = 5 := by rw [hxs, skL_length]
  have xg : ∀ k, k < 5 → xs.getD k none = sk P H B least (A + k) := fun k hk => by rw [hxs, skL_get _ _ _ _ _ _ hk]
  rw [← hxs]
  obtain ⟨M, hM⟩ : ∃ M, M = bdL xs := ⟨_, rfl⟩
  obtain ⟨es, he⟩ : ∃ es, es = xs.map epo := ⟨_, rfl⟩
  have ML : Hid (M.length = 5) := by show _ = _; rw [hM, bdL_length, xl]
  have EL : Hid (es.length = 5) := by show _ = _; rw [he, List.length_map, xl]
  have MG0 : Hid (∀ k, k < 5 → M.getD k [] = elB (bdo (sk P H B least (A + k)))) := by
    show ∀ k, _
    intro k hk
    rw [hM, bdL_get xs k (by omega), xg k hk]
  have EG0 : Hid (∀ k, k < 5 → es.getD k 0 = epo (sk P H B least (A + k))) := by
    show ∀ k, _
    intro k hk
    rw [he, map_getD xs k (by omega), xg k hk]
  rw [← hM, ← he]
  clear gk hp hh hb hW b0 bx hxs xl xg hM he
  go_enter Tryz.func148, Tryz.ntmps148
  go_wp2
  rw [← HW.out]
  go_loopw [8, 9, 10, 11, 12, 13, 14, 15, 16, 17, 18] (fun vm ve vk _ _ _ _ _ _ _ _ wr => ∃ (k : Nat) (vs : List Value), k ≤ 5 ∧ vk = .int .i64 k ∧ Sn wr W0.heap.size wr.heap.size vm ve vs (M.take k) (es.take k) ∧ Below W0.heap.size W0 wr) (fun _ _ vk _ _ _ _ _ _ _ _ _ => 5 - (intOf vk).toNat)
  case atStart => exact ⟨0, [], Nat.zero_le _, rfl, Sn.nil _ _ _, Below.refl _ _⟩
  case round =>
    obtain ⟨k, vs, hk, rfl, hsn, hb⟩ := hrel
    obtain ⟨Wr, rfl⟩ : ∃ W1, W1 = wr := ⟨_, rfl⟩
    obtain ⟨am, cm, hvm⟩ := row_slice hsn.mat.head
    obtain ⟨ae0, ce0, hve0⟩ := row_slice hsn.ep
    obtain ⟨nm, hnm⟩ : ∃ nm, nm = (M.take k).length := ⟨_, rfl⟩
    obtain ⟨ne, hne⟩ : ∃ ne, ne = (es.take k).length := ⟨_, rfl⟩
    have hne5 : ne ≤ 5 := by rw [hne, List.length_take]; omega
    rw [← hnm] at hvm
    rw [← hne] at hve0
    subst hvm
    subst hve0
    have NE := hide hne.symm
    clear hnm hne
    have SN := hide hsn
    have B0 := hide hb
    have s1 := hb.size
    clear hsn hb
    by_cases hlt : k < 5
    · have hlt' : (k : Int) < 5 := by omega
      have MG := hide (MG0.out k hlt)
      have EG := hide (EG0.out k hlt)
      have hsk : sk P H B least (A + k) = sk P H B least (A + k) := rfl
      have hl0 : (M.take k).length ≤ 5 := by rw [List.length_take]; omega
      have BXr := hide (BX.out.below B0.out)
      obtain ⟨c0, c1, c2⟩ := BXr.out.c3
      have E5 : Hid (((A : Int) + (k : Int)) = ((A + k : Nat) : Int)) := by show _ = _; omega
      have R1 := hide (fun W h1 h2 h3 => l7Read_calls p h b P H B (A + k) W GK.out (by omega) h1 h2 h3)
      have hsz := gk_rs GK.out (A + k) (by omega)
      clear hsk
      go_wp2_with (at_make; refine wpList_make_ints rfl _ _ rfl Wr.heap.size _ _ 16 rfl rfl (by omega) (by omega) (by omega) (Nat.le_refl _) ?_)
      intro w1 hx hg1
      have hb1 : Below Wr.heap.size Wr w1 := (Below.refl _ _).grown hg1 (Nat.le_refl _) (fun k h => by cases h)
      have OX := hide hx
      have B1 := hide hb1
      have BX1 := hide (BXr.out.below hb1)
      clear hx hg1 hb1 c0 c1 c2
      obtain ⟨c0, c1, c2⟩ := BX1.out.c3
      go_wp2_with fail
      rw [E5.out]
      refine (R1.out _ (RP.out.below (B0.out.trans (B1.out.mono s1))) (RH.out.below (B0.out.trans (B1.out.mono s1))) (RB.out.below (B0.out.trans (B1.out.mono s1)))).mono ?_
      rintro e w2 ⟨rfl, q⟩
      have B2 := hide (B1.out.trans (q.mono B1.out.size))
      have OX2 := hide (OX.out.below q)
      clear q OX B1 c0 c1 c2 R1
      have SKE : Hid (sk P H B least (A + k) = if B.getD (A + k) false = true then none else if (ckR (rsT P H (A + k)) 2 ((A + k : Nat) : Int) least).ok = true ∧ (ckR (rsT P H (A + k)) 2 ((A + k : Nat) : Int) least).B.size = 16 then some ((ckR (rsT P H (A + k)) 2 ((A + k : Nat) : Int) least).E, (ckR (rsT P H (A + k)) 2 ((A + k : Nat) : Int) least).B) else none) := rfl
      obtain ⟨x, hx⟩ : ∃ x, x = sk P H B least (A + k) := ⟨_, rfl⟩
      rw [← hx] at MG EG SKE
      clear hx
      have hs28 : (if B.getD (A + k) false = true then (⟨#[]⟩ : ByteArray) else rsT P H (A + k)).size ≤ 28 := by
        split
        · exact Nat.zero_le _
        · exact hsz
      have CF := hide (fun W => sCheckFrame_calls (if B.getD (A + k) false = true then (⟨#[]⟩ : ByteArray) else rsT P H (A + k)) 2 ((A + k : Nat) : Int) least W (by unfold maxLen; omega))
      generalize hsx : (if B.getD (A + k) false = true then (⟨#[]⟩ : ByteArray) else rsT P H (A + k)) = s at *
      have SM := hide (ckR_small s 2 ((A + k : Nat) : Int) least)
      have SKF : Hid (x = if B.getD (A + k) false = false ∧ (ckR s 2 ((A + k : Nat) : Int) least).ok = true ∧ (ckR s 2 ((A + k : Nat) : Int) least).B.size = 16 then some ((ckR s 2 ((A + k : Nat) : Int) least).E, (ckR s 2 ((A + k : Nat) : Int) least).B) else none) := by
        show _ = _
        rw [SKE.out]
        cases hB : B.getD (A + k) false with
        | true => simp
        | false =>
          rw [hB, if_neg (by simp)] at hsx
          rw [hsx]
          simp
      clear SKE hsx hsz hs28
      generalize B.getD (A + k) false = y at *
      generalize ckR s 2 ((A + k : Nat) : Int) least = c at *
      rcases c with ⟨K, A', E, bo, code, ok⟩
      simp only [] at SKF CF SM
      have hbo : bo.size ≤ 16 := SM.out
      go_wp2_with fail
      (try rw [E5.out])
      refine (CF.out _).mono ?_
      rintro e w3 ⟨rfl, q⟩
      have B3 := hide (B2.out.trans (q.mono B2.out.size))
      have OX3 := hide (OX2.out.below q)
      clear q OX2 B2 CF SM
      have B3' := hide (B3.out.alloc B3.out.size (.cells #[.int .i64 K, .int .i64 A', .int .i64 E, .string bo] 160))
      have OX4 := hide (OX3.out.below (below_box w3 (.cells #[.int .i64 K, .int .i64 A', .int .i64 E, .string bo] 160)))
      have GP3 := hide ((World.ownsRow.lt OX3.out Wr.heap.size rfl).2)
      have FX := hide (BoxAt.new w3 #[.int .i64 K, .int .i64 A', .int .i64 E, .string bo] 160)
      obtain ⟨f0, f1, f2, f3⟩ := FX.out.c4
      by_cases hgood : y = false ∧ ok = true ∧ bo.size = 16
      · obtain ⟨rfl, rfl, h16⟩ := hgood
        have e1 : x = some (E, bo) := by rw [SKF.out, if_pos ⟨rfl, rfl, h16⟩]
        have h16' : (bo.size : Int) = 16 := by omega
        subst e1
        have MG2 : Hid (M.getD k [] = elB (bs bo)) := MG.out
        have EG2 : Hid (es.getD k 0 = E) := EG.out
        have BL : Hid ((elB (bs bo)).length = 16) := by show _ = _; rw [elB_length, bs_length, h16]
        clear SKF MG EG
        have MG := MG2
        have EG := EG2
        clear MG2 EG2
        go_wp2
        go_loopw [18, 56] (fun _ vi wt => ∃ j : Nat, j ≤ 16 ∧ vi = .int .i64 j ∧ Own wt Wr.heap.size (.slice (some ⟨Wr.heap.size, 0, none⟩) 16 16) (cpTo (elB (bs bo)) j) ∧ Below Wr.heap.size Wr wt ∧ BoxAt wt w3.heap.size #[.int .i64 K, .int .i64 A', .int .i64 E, .string bo] 160) (fun _ vi _ => 16 - (intOf vi).toNat)
        case atStart =>
          refine ⟨0, Nat.zero_le _, rfl, ?_, B3'.out, FX.out⟩
          rw [cpTo_zero, BL.out]
          exact OX4.out
        case round =>
          obtain ⟨j, hj, rfl, ho, hbt, hfx⟩ := hrel
          by_cases hltj : j < 16
          · have hltj' : (j : Int) < 16 := by omega
            have hltb : (j : Int) < (bo.size : Int) := by omega
            have hcl : (cpTo (elB (bs bo)) j).length = 16 := by rw [cpTo_length _ j (by rw [BL.out]; exact hj), BL.out]
            obtain ⟨hfz, hcell⟩ := ho.at j (by rw [hcl]; exact hltj)
            obtain ⟨old, hold⟩ : ∃ o, o = (cpTo (elB (bs bo)) j).getD j 0 := ⟨_, rfl⟩
            rw [← hold] at hcell
            have hjb : j < bo.size := by omega
            obtain ⟨byt, hbz⟩ : ∃ byt, byt = bo[j].toNat := ⟨_, rfl⟩
            have hb256 : byt < 256 := by rw [hbz]; exact (bo[j]).toNat_lt
            have hbyt : byt = (bs bo).getD j 0 := by rw [hbz]; exact (bs_getD bo j hjb).symm
            have hbz' := hbz.symm
            have hst : (cpTo (elB (bs bo)) j).set j (byt : Int) = cpTo (elB (bs bo)) (j + 1) := by
              have := cpTo_step (elB (bs bo)) j (by rw [BL.out]; exact hltj)
              rw [elB_get, ← hbyt] at this
              exact this
            have W := hide (ho.put j (byt : Int))
            have ST := hide hst
            have BT := hide hbt
            have FXt := hide hfx
            obtain ⟨f0', f1', f2', f3'⟩ := hfx.c4
            clear hold ho hbt hst hcl hfx f0 f1 f2 f3 hbyt hbz
            go_wp2
            go_roundw
            case rel =>
              refine ⟨j + 1, by omega, by go_num, ?_, BT.out.setCell (Nat.le_refl _) _, FXt.out.chg (Chg.ofSetCell _ _ _ _ (Nat.le_refl _) (Nat.lt_succ_self _)) (by have := GP3.out; omega)⟩
              have := W.out.1
              rw [ST.out] at this
              exact this
            case measure => simp [intOf]; omega
          · obtain rfl : j = 16 := by omega
            have ho2 := ho
            have e := cpTo_end (elB (bs bo))
            rw [BL.out] at e
            rw [e, ← MG.out] at ho2
            have OP := hide ho2
            have BT := hide hbt
            clear ho hbt hfx ho2 e
            have s2 := BT.out.size
            go_wp2_with (at_builtin; refine wpList_append_row2 rfl _ _ rfl W0.heap.size Wr.heap.size _ vs (M.take k) rfl SN.out.mat (BT.out.alloc BT.out.size _) _ _ (OP.out.below ((Below.refl _ _).alloc (Nat.le_refl _) _)) (Nat.le_refl _) s1 _ rfl (World.cell?_alloc_at _ _ _ _ (by simp)) (by simp; omega) ?_)
            intro v2 w2 ho2 hg2
            have hsn := SN.out.push (BT.out.alloc BT.out.size _) (OP.out.below ((Below.refl _ _).alloc (Nat.le_refl _) _)) s1 (by simpa using ho2) hg2
            have SN2 := hide hsn
            have B2 : Hid (Below W0.heap.size W0 w2) := (B0.out.trans ((BT.out.alloc BT.out.size _).mono s1)).grown hg2 (Nat.le_trans s1 (Nat.le_trans s2 (by simp))) (fun j hj => (World.ownsRow.lt SN.out.mat.head j hj).1)
            clear ho2 hg2 hsn
            have B3 := hide (B2.out.alloc B2.out.size (.cells #[.int .i64 (E)] 3))
            have SN3 := hide (SN2.out.below (below_box w2 (.cells #[.int .i64 (E)] 3)))
            have O3 : Hid ((w2.alloc (.cells #[.int .i64 (E)] 3)).ownsRow W0.heap.size 3 1 (.slice ae0 ne ce0) ne ((es.take k).map (Value.int .i64))) := by
              have := SN3.out.ep
              unfold Own at this
              rw [NE.out] at this
              exact this
            go_wp2_with (at_builtin; refine wpList_append_int1 rfl _ _ rfl W0.heap.size _ ne (es.take k) (E) rfl O3.out w2.heap.size rfl (World.cell?_alloc_at _ _ _ _ (by simp)) (by omega) (by have := B2.out.size; simp; omega) ?_)
            intro g4 c4 w4 o4 p4 q4 r4
            rw [← List.map_take] at o4
            have SN4 := hide (SN3.out.grow (by simp) o4 NE.out p4 (by simpa using q4) r4)
            have B4 : Hid (Below W0.heap.size W0 w4) := B3.out.grown p4 B3.out.size (fun j hj => (World.ownsRow.lt SN3.out.ep j hj).1)
            clear o4 p4 q4 r4 SN2 SN3 B2 B3
            go_wp2
            go_roundw
            case rel =>
              refine ⟨k + 1, vs ++ [.slice (some ⟨Wr.heap.size, 0, none⟩) 16 16], by omega, by go_num, ?_, B4.out⟩
              rw [take_next M k (by rw [ML.out]; exact hlt), take_nextI es k (by rw [EL.out]; exact hlt), EG.out]
              exact SN4.out
            case measure => simp [intOf]; omega
      · have e1 : x = none := by rw [SKF.out, if_neg hgood]
        subst e1
        have OP : Hid (Own (w3.alloc (.cells #[.int .i64 K, .int .i64 A', .int .i64 E, .string bo] 160)) Wr.heap.size (.slice (some ⟨Wr.heap.size, 0, none⟩) 16 16) (M.getD k [])) := by
          show Own _ _ _ _
          rw [MG.out]
          have : elB (bdo none) = List.replicate 16 0 := by simp [elB, bdo]
          rw [this]
          exact OX4.out
        have BT := B3'
        have EG2 : Hid (es.getD k 0 = -1) := EG.out
        clear SKF EG OX3 OX4 B3 B3'
        have EG := EG2
        clear EG2
        cases y with
        | true =>
          have s2 := BT.out.size
          go_wp2_with (at_builtin; refine wpList_append_row2 rfl _ _ rfl W0.heap.size Wr.heap.size _ vs (M.take k) rfl SN.out.mat (BT.out.alloc BT.out.size _) _ _ (OP.out.below ((Below.refl _ _).alloc (Nat.le_refl _) _)) (Nat.le_refl _) s1 _ rfl (World.cell?_alloc_at _ _ _ _ (by simp)) (by simp; omega) ?_)
          intro v2 w2 ho2 hg2
          have hsn := SN.out.push (BT.out.alloc BT.out.size _) (OP.out.below ((Below.refl _ _).alloc (Nat.le_refl _) _)) s1 (by simpa using ho2) hg2
          have SN2 := hide hsn
          have B2 : Hid (Below W0.heap.size W0 w2) := (B0.out.trans ((BT.out.alloc BT.out.size _).mono s1)).grown hg2 (Nat.le_trans s1 (Nat.le_trans s2 (by simp))) (fun j hj => (World.ownsRow.lt SN.out.mat.head j hj).1)
          clear ho2 hg2 hsn
          have B3 := hide (B2.out.alloc B2.out.size (.cells #[.int .i64 (-1)] 3))
          have SN3 := hide (SN2.out.below (below_box w2 (.cells #[.int .i64 (-1)] 3)))
          have O3 : Hid ((w2.alloc (.cells #[.int .i64 (-1)] 3)).ownsRow W0.heap.size 3 1 (.slice ae0 ne ce0) ne ((es.take k).map (Value.int .i64))) := by
            have := SN3.out.ep
            unfold Own at this
            rw [NE.out] at this
            exact this
          go_wp2_with (at_builtin; refine wpList_append_int1 rfl _ _ rfl W0.heap.size _ ne (es.take k) (-1) rfl O3.out w2.heap.size rfl (World.cell?_alloc_at _ _ _ _ (by simp)) (by omega) (by have := B2.out.size; simp; omega) ?_)
          intro g4 c4 w4 o4 p4 q4 r4
          rw [← List.map_take] at o4
          have SN4 := hide (SN3.out.grow (by simp) o4 NE.out p4 (by simpa using q4) r4)
          have B4 : Hid (Below W0.heap.size W0 w4) := B3.out.grown p4 B3.out.size (fun j hj => (World.ownsRow.lt SN3.out.ep j hj).1)
          clear o4 p4 q4 r4 SN2 SN3 B2 B3
          go_wp2
          go_roundw
          case rel =>
            refine ⟨k + 1, vs ++ [.slice (some ⟨Wr.heap.size, 0, none⟩) 16 16], by omega, by go_num, ?_, B4.out⟩
            rw [take_next M k (by rw [ML.out]; exact hlt), take_nextI es k (by rw [EL.out]; exact hlt), EG.out]
            exact SN4.out
          case measure => simp [intOf]; omega
        | false =>
          cases ok with
          | false =>
            have s2 := BT.out.size
            go_wp2_with (at_builtin; refine wpList_append_row2 rfl _ _ rfl W0.heap.size Wr.heap.size _ vs (M.take k) rfl SN.out.mat (BT.out.alloc BT.out.size _) _ _ (OP.out.below ((Below.refl _ _).alloc (Nat.le_refl _) _)) (Nat.le_refl _) s1 _ rfl (World.cell?_alloc_at _ _ _ _ (by simp)) (by simp; omega) ?_)
            intro v2 w2 ho2 hg2
            have hsn := SN.out.push (BT.out.alloc BT.out.size _) (OP.out.below ((Below.refl _ _).alloc (Nat.le_refl _) _)) s1 (by simpa using ho2) hg2
            have SN2 := hide hsn
            have B2 : Hid (Below W0.heap.size W0 w2) := (B0.out.trans ((BT.out.alloc BT.out.size _).mono s1)).grown hg2 (Nat.le_trans s1 (Nat.le_trans s2 (by simp))) (fun j hj => (World.ownsRow.lt SN.out.mat.head j hj).1)
            clear ho2 hg2 hsn
            have B3 := hide (B2.out.alloc B2.out.size (.cells #[.int .i64 (-1)] 3))
            have SN3 := hide (SN2.out.below (below_box w2 (.cells #[.int .i64 (-1)] 3)))
            have O3 : Hid ((w2.alloc (.cells #[.int .i64 (-1)] 3)).ownsRow W0.heap.size 3 1 (.slice ae0 ne ce0) ne ((es.take k).map (Value.int .i64))) := by
              have := SN3.out.ep
              unfold Own at this
              rw [NE.out] at this
              exact this
            go_wp2_with (at_builtin; refine wpList_append_int1 rfl _ _ rfl W0.heap.size _ ne (es.take k) (-1) rfl O3.out w2.heap.size rfl (World.cell?_alloc_at _ _ _ _ (by simp)) (by omega) (by have := B2.out.size; simp; omega) ?_)
            intro g4 c4 w4 o4 p4 q4 r4
            rw [← List.map_take] at o4
            have SN4 := hide (SN3.out.grow (by simp) o4 NE.out p4 (by simpa using q4) r4)
            have B4 : Hid (Below W0.heap.size W0 w4) := B3.out.grown p4 B3.out.size (fun j hj => (World.ownsRow.lt SN3.out.ep j hj).1)
            clear o4 p4 q4 r4 SN2 SN3 B2 B3
            go_wp2
            go_roundw
            case rel =>
              refine ⟨k + 1, vs ++ [.slice (some ⟨Wr.heap.size, 0, none⟩) 16 16], by omega, by go_num, ?_, B4.out⟩
              rw [take_next M k (by rw [ML.out]; exact hlt), take_nextI es k (by rw [EL.out]; exact hlt), EG.out]
              exact SN4.out
            case measure => simp [intOf]; omega
          | true =>
            have h16' : ¬ (bo.size : Int) = 16 := fun h' => hgood ⟨rfl, rfl, by omega⟩
            have h16'' : ((bo.size : Int) == 16) = false := by simpa using h16'
            have s2 := BT.out.size
            go_wp2_with (at_builtin; refine wpList_append_row2 rfl _ _ rfl W0.heap.size Wr.heap.size _ vs (M.take k) rfl SN.out.mat (BT.out.alloc BT.out.size _) _ _ (OP.out.below ((Below.refl _ _).alloc (Nat.le_refl _) _)) (Nat.le_refl _) s1 _ rfl (World.cell?_alloc_at _ _ _ _ (by simp)) (by simp; omega) ?_)
            intro v2 w2 ho2 hg2
            have hsn := SN.out.push (BT.out.alloc BT.out.size _) (OP.out.below ((Below.refl _ _).alloc (Nat.le_refl _) _)) s1 (by simpa using ho2) hg2
            have SN2 := hide hsn
            have B2 : Hid (Below W0.heap.size W0 w2) := (B0.out.trans ((BT.out.alloc BT.out.size _).mono s1)).grown hg2 (Nat.le_trans s1 (Nat.le_trans s2 (by simp))) (fun j hj => (World.ownsRow.lt SN.out.mat.head j hj).1)
            clear ho2 hg2 hsn
            have B3 := hide (B2.out.alloc B2.out.size (.cells #[.int .i64 (-1)] 3))
            have SN3 := hide (SN2.out.below (below_box w2 (.cells #[.int .i64 (-1)] 3)))
            have O3 : Hid ((w2.alloc (.cells #[.int .i64 (-1)] 3)).ownsRow W0.heap.size 3 1 (.slice ae0 ne ce0) ne ((es.take k).map (Value.int .i64))) := by
              have := SN3.out.ep
              unfold Own at this
              rw [NE.out] at this
              exact this
            go_wp2_with (at_builtin; refine wpList_append_int1 rfl _ _ rfl W0.heap.size _ ne (es.take k) (-1) rfl O3.out w2.heap.size rfl (World.cell?_alloc_at _ _ _ _ (by simp)) (by omega) (by have := B2.out.size; simp; omega) ?_)
            intro g4 c4 w4 o4 p4 q4 r4
            rw [← List.map_take] at o4
            have SN4 := hide (SN3.out.grow (by simp) o4 NE.out p4 (by simpa using q4) r4)
            have B4 : Hid (Below W0.heap.size W0 w4) := B3.out.grown p4 B3.out.size (fun j hj => (World.ownsRow.lt SN3.out.ep j hj).1)
            clear o4 p4 q4 r4 SN2 SN3 B2 B3
            go_wp2
            go_roundw
            case rel =>
              refine ⟨k + 1, vs ++ [.slice (some ⟨Wr.heap.size, 0, none⟩) 16 16], by omega, by go_num, ?_, B4.out⟩
              rw [take_next M k (by rw [ML.out]; exact hlt), take_nextI es k (by rw [EL.out]; exact hlt), EG.out]
              exact SN4.out
            case measure => simp [intOf]; omega
    · obtain rfl : k = 5 := by omega
      have hM5 : M.take 5 = M := List.take_of_length_le (by rw [ML.out]; exact Nat.le_refl _)
      have hE5 : es.take 5 = es := List.take_of_length_le (by rw [EL.out]; exact Nat.le_refl _)
      have SN5 := SN.out
      rw [hM5, hE5] at SN5
      have SNN := hide SN5
      clear SN5 hM5 hE5
      go_wp2
      go_ret2
      refine ⟨_, _, vs, rfl, ?_, BW.out.trans (B0.out.mono BW.out.size)⟩
      have hh := SNN.out
      exact ⟨hh.mat.wider BW.out.size (Nat.le_refl _), Own.mono hh.ep BW.out.size, hh.te, hh.ne⟩

set_option maxRecDepth 100000 in
theorem l8Bit_calls (y : Bool) (w : World) : Calls Tryz.prog 182 #[.bool y] w fun e w' => e = .returned (.int .i64 (if y = true then 1 else 0)) ∧ w = w' := by
  cases y with
  | true =>
    go_enter Tryz.func182, Tryz.ntmps182
    go_wp2
    go_ret
    exact ⟨rfl, rfl⟩
  | false =>
    go_enter Tryz.func182, Tryz.ntmps182
    go_wp2
    go_ret
    exact ⟨rfl, rfl⟩
set_option maxRecDepth 100000 in
set_option maxHeartbeats 1600000 in
theorem l8Right_calls (v : Value) (es : List Int) (w : World) (h : Rd w v es) (hl : es.length ≤ 24) :
    Calls Tryz.prog 149 #[v] w fun e w' => e = .returned (.int .i64 (rtE es es.length)) ∧ w = w' := by
  have R := hide h
  obtain ⟨a, cap, rfl, m1, m2, m3⟩ := h
  clear m1 m2
  obtain ⟨rt, hrt⟩ : ∃ rt : Nat → Int, rt = rtE es := ⟨_, rfl⟩
  have h0 : rt 0 = -1 := by rw [hrt]; rfl
  have hs : ∀ k, rt (k + 1) = if 3 ≤ cntE es (es.getD k 0) es.length then max (rt k) (es.getD k 0) else rt k := by intro k; rw [hrt]; rfl
  rw [← hrt]
  have HS := hide hs
  have H0 := hide h0
  have M3 := hide m3
  clear hrt hs h0 m3
  go_enter Tryz.func149, Tryz.ntmps149
  go_wp2
  go_loop [3, 5, 6, 8, 11] (fun vr _ _ _ vi => ∃ k : Nat, k ≤ es.length ∧ vi = .int .i64 k ∧ vr = .int .i64 (rt k)) (fun _ _ _ _ vi => es.length - (intOf vi).toNat)
  case atStart => exact ⟨0, Nat.zero_le _, rfl, by rw [H0.out]⟩
  case round =>
    obtain ⟨k, hk, rfl, rfl⟩ := hrel
    by_cases hlt : k < es.length
    · rcases M3.out with h3 | ⟨b, off, rfl, hbs, hc⟩
      · subst h3; simp at hlt
      have hlt' : (k : Int) < (es.length : Int) := by omega
      have hck := hc k hlt
      have HC := hide hc
      have S := hide (HS.out k)
      obtain ⟨E, hE⟩ : ∃ E, E = es.getD k 0 := ⟨_, rfl⟩
      rw [← hE] at hck S
      have hcs : ∀ j, cntE es E (j + 1) = cntE es E j + (if es.getD j 0 = E then 1 else 0) := fun j => rfl
      have hc0 : cntE es E 0 = 0 := rfl
      have hcle := cntE_le es E
      generalize cntE es E = cn at S hcs hc0 hcle
      generalize rt k = q at S
      have CS := hide hcs
      have C0 := hide hc0
      have CL := hide hcle
      clear hc hE hcs hc0 hcle
      go_wp2
      go_loop [6, 8, 17] (fun vn _ vj => ∃ j : Nat, j ≤ es.length ∧ vj = .int .i64 j ∧ vn = .int .i64 (cn j : Int)) (fun _ _ vj => es.length - (intOf vj).toNat)
      case atStart => exact ⟨0, Nat.zero_le _, rfl, by rw [C0.out]; rfl⟩
      case round =>
        obtain ⟨j, hj, rfl, rfl⟩ := hrel
        have cj := CL.out j
        by_cases hltj : j < es.length
        · have hltj' : (j : Int) < (es.length : Int) := by omega
          have hcj := HC.out j hltj
          have S2 := hide (CS.out j)
          generalize es.getD j 0 = x at hcj S2
          by_cases hx : x = E
          · have e2 : Hid (cn (j + 1) = cn j + 1) := by show _ = _; rw [S2.out, if_pos hx]
            subst hx
            have C := hide (fun W => l8Bit_calls true W)
            go_wp2_with fail
            refine (C.out _).mono ?_
            rintro e w1 ⟨rfl, rfl⟩
            simp only [if_pos]
            go_wp2
            go_round
            case rel => exact ⟨j + 1, by omega, by go_num, by rw [e2.out]; go_num⟩
            case measure => simp [intOf]; omega
          · have e2 : Hid (cn (j + 1) = cn j) := by show _ = _; rw [S2.out, if_neg hx, Nat.add_zero]
            have hx' : (x == E) = false := by simpa using hx
            have C := hide (fun W => l8Bit_calls false W)
            go_wp2_with fail
            refine (C.out _).mono ?_
            rintro e w1 ⟨rfl, rfl⟩
            rw [if_neg (by simp)]
            go_wp2
            go_round
            case rel => exact ⟨j + 1, by omega, by go_num, by rw [e2.out]⟩
            case measure => simp [intOf]; omega
        · obtain rfl : j = es.length := by omega
          by_cases h3 : 3 ≤ cn es.length
          · have h3' : (3 : Int) ≤ (cn es.length : Int) := by omega
            by_cases hq : q < E
            · have e1 : Hid (rt (k + 1) = E) := by show _ = _; rw [S.out, if_pos h3]; exact Int.max_eq_right (by omega)
              clear S
              go_wp2
              go_round
              case rel => exact ⟨k + 1, by omega, by go_num, by rw [e1.out]⟩
              case measure => simp [intOf]; omega
            · have e1 : Hid (rt (k + 1) = q) := by show _ = _; rw [S.out, if_pos h3]; exact Int.max_eq_left (by omega)
              clear S
              go_wp2
              go_round
              case rel => exact ⟨k + 1, by omega, by go_num, by rw [e1.out]⟩
              case measure => simp [intOf]; omega
          · have h3' : ¬ (3 : Int) ≤ (cn es.length : Int) := by omega
            have h3d : decide ((3 : Int) ≤ (cn es.length : Int)) = false := decide_eq_false h3'
            have e1 : Hid (rt (k + 1) = q) := by show _ = _; rw [S.out, if_neg h3]
            clear S
            by_cases hq : q < E
            · go_wp2
              go_round
              case rel => exact ⟨k + 1, by omega, by go_num, by rw [e1.out]⟩
              case measure => simp [intOf]; omega
            · go_wp2
              go_round
              case rel => exact ⟨k + 1, by omega, by go_num, by rw [e1.out]⟩
              case measure => simp [intOf]; omega
    · obtain rfl : k = es.length := by omega
      go_wp2
      go_ret
      exact ⟨rfl, rfl⟩
end Go.Proofs.YtbgadbokejaomaaGreatDoor
