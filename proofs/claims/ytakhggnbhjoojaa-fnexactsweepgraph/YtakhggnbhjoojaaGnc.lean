/-
  Counts: how often nodes are named, by the model's functions and by the program's, call by call. Each contract says what it asks.
-/
import Derived.Test.YtakhggnbhjoojaaGnb
namespace Go.Proofs.Ytakhggnbhjoojaa
open Go.RowKit
set_option linter.unusedVariables false

/-- One count more. -/
def bump (cs : List Int) (x : Int) : List Int := cs.set x.toNat (cs.getD x.toNat 0 + 1)
def cntL (cs xs : List Int) : List Int := xs.foldl bump cs
def cntN (cs : List Int) (m : List Nd) : List Int := m.foldl (fun c n => cntL c n.1) cs
def cntG (m : List Nd) (rs : List Int) : List Int := cntN (cntL (List.replicate m.length 0) rs) m
/-- What CountsOf answers. -/
def ctR (m : List Nd) (rs : List Int) : List Int := if okG m rs then cntG m rs else []
theorem take_succ_getD {α : Type} (xs : List α) (i : Nat) (d : α) (h : i < xs.length) : xs.take (i + 1) = xs.take i ++ [xs.getD i d] := by
  rw [List.take_succ_eq_append_getElem h, List.getD_eq_getElem?_getD, List.getElem?_eq_getElem h, Option.getD_some]
theorem bump_len (cs : List Int) (x : Int) : (bump cs x).length = cs.length := by simp [bump]
theorem cntL_len : ∀ (xs cs : List Int), (cntL cs xs).length = cs.length
  | [], cs => rfl
  | x :: xs, cs => by
    show (cntL (bump cs x) xs).length = _
    rw [cntL_len xs, bump_len]
theorem cntN_len : ∀ (m : List Nd) (cs : List Int), (cntN cs m).length = cs.length
  | [], cs => rfl
  | n :: m, cs => by
    show (cntN (cntL cs n.1) m).length = _
    rw [cntN_len m, cntL_len]
theorem cntG_len (m : List Nd) (rs : List Int) : (cntG m rs).length = m.length := by simp [cntG, cntN_len, cntL_len]
theorem cntL_succ (cs xs : List Int) (i : Nat) (h : i < xs.length) : cntL cs (xs.take (i + 1)) = bump (cntL cs (xs.take i)) (xs.getD i 0) := by
  rw [take_succ_getD xs i 0 h]
  simp [cntL, List.foldl_append]
theorem cntN_succ (cs : List Int) (m : List Nd) (i : Nat) (h : i < m.length) : cntN cs (m.take (i + 1)) = cntL (cntN cs (m.take i)) (m.getD i nd0).1 := by
  rw [take_succ_getD m i nd0 h]
  simp [cntN, List.foldl_append]
/-- Numbers between 0 and B. -/
def Bd (B : Nat) (cs : List Int) : Prop := ∀ i, i < cs.length → 0 ≤ cs.getD i 0 ∧ cs.getD i 0 ≤ (B : Int)
theorem Bd.zero (n : Nat) : Bd 0 (List.replicate n 0) := by
  intro i hi
  simp only [List.length_replicate] at hi
  simp [List.getD_eq_getElem?_getD, hi]
theorem Bd.bump {B : Nat} {cs : List Int} (h : Bd B cs) (x : Int) : Bd (B + 1) (bump cs x) := by
  intro i hi
  rw [bump_len] at hi
  unfold Go.Proofs.Ytakhggnbhjoojaa.bump
  by_cases hx : x.toNat < cs.length
  · rw [getD_set _ _ _ _ _ hx]
    by_cases e : i = x.toNat
    · rw [if_pos e]
      have := h x.toNat hx
      omega
    · rw [if_neg e]
      have := h i hi
      omega
  · rw [List.set_eq_of_length_le (by omega)]
    have := h i hi
    omega
theorem Bd.list {B : Nat} : ∀ {xs cs : List Int}, Bd B cs → Bd (B + xs.length) (cntL cs xs)
  | [], cs, h => h
  | x :: xs, cs, h => by
    have := Bd.list (xs := xs) (h.bump x)
    rw [show B + 1 + xs.length = B + (x :: xs).length from by simp; omega] at this
    exact this
theorem Bd.mono {B C : Nat} {cs : List Int} (h : Bd B cs) (hc : B ≤ C) : Bd C cs := fun i hi => by have := h i hi; omega
theorem Bd.nodes {B : Nat} : ∀ {m : List Nd} {cs : List Int}, Bd B cs → Bd (B + totN m) (cntN cs m)
  | [], cs, h => h
  | n :: m, cs, h => by
    have := Bd.nodes (m := m) (Bd.list (xs := n.1) h)
    rw [show B + n.1.length + totN m = B + totN (n :: m) from by simp [totN]; omega] at this
    exact this

theorem totN_take_six (m : List Nd) (h : okNs m) : ∀ k, k ≤ m.length → totN (m.take k) ≤ 6 * k
  | 0, _ => by simp [totN]
  | k + 1, hk => by
    have h1 := totN_take_six m h k (by omega)
    have h2 := (h k (by omega)).2.1
    rw [totN_take_succ m k (by omega)]
    omega
theorem totN_six (m : List Nd) (h : okNs m) : totN m ≤ 6 * m.length := by
  have := totN_take_six m h m.length (Nat.le_refl _)
  rwa [List.take_length] at this

/-- What stands at a place of a row of counts, and what the row is when it is one more there. -/
theorem bump_facts {w : World} {base g n x : Nat} {cs : List Int} (h : Own w base (.slice (some ⟨g, 0, none⟩) n n) cs) (hl : cs.length = n) (hx : x < n) :
    w.cell? ⟨g, x, none⟩ = some (.int .i64 (cs.getD x 0)) ∧ w.frozen? ⟨g, x, none⟩ = false ∧ Own (w.setCell ⟨g, x, none⟩ (.int .i64 (cs.getD x 0 + 1))) base (.slice (some ⟨g, 0, none⟩) n n) (bump cs x) ∧ w.grownBy (w.setCell ⟨g, x, none⟩ (.int .i64 (cs.getD x 0 + 1))) (some g) := by
  have hown := h
  unfold Own at hown
  rw [hl] at hown
  have st := hown.stored x (.int .i64 (cs.getD x 0 + 1))
  refine ⟨?_, hown.frozenAt x, ?_, st.2⟩
  · rw [hown.cellAt x (by omega), List.getElem?_map, List.getElem?_eq_getElem (by omega), List.getD_eq_getElem?_getD, List.getElem?_eq_getElem (by omega)]
    rfl
  · have h1 := st.1
    unfold Own
    rw [bump_len, hl]
    rw [← List.map_set] at h1
    exact h1
theorem Rd.cellAt {w : World} {a : Option Addr} {n cap : Nat} {xs : List Int} (h : Rd w (.slice a n cap) xs) (i : Nat) (hi : i < xs.length) : ∃ b off, a = some ⟨b, off, none⟩ ∧ w.cell? ⟨b, off + i, none⟩ = some (.int .i64 (xs.getD i 0)) := by
  obtain ⟨a', cap', e, h1, h2, h3⟩ := h
  simp only [Value.slice.injEq] at e
  obtain ⟨rfl, _, rfl⟩ := e
  rcases h3 with rfl | ⟨b, off, rfl, hlt, hc⟩
  · simp at hi
  · exact ⟨b, off, rfl, hc i hi⟩

set_option maxRecDepth 100000 in
set_option maxHeartbeats 3200000 in
theorem l10Counts_calls (v u : Value) (m : List Nd) (rs : List Int) (w : World) (h : RdN w v m) (hu : Rd w u rs) (hok : okG m rs) :
    Calls Try.prog 67 #[v, u] w fun e w' => ∃ c, e = .returned c ∧ Own w' w.heap.size c (cntG m rs) ∧ Below w.heap.size w w' := by
  have R := hide h
  have V := hide hu
  have OK := hide hok
  have h14 := hok.1.1
  have h6 := hok.2.1
  obtain ⟨a, cap, rfl, h1, h2, h3⟩ := h
  obtain ⟨ra, rc, rfl, hr1, hr2⟩ := hu.slc
  clear h1 h2 h3 hu hr1 hr2 hok
  go_enter Try.func67, Try.ntmps67
  go_wp2_with (at_make; refine wpList_make_ints rfl _ _ rfl w.heap.size _ _ m.length rfl rfl (by omega) (by omega) (by omega) (Nat.le_refl _) ?_)
  intro w0 ho0 hg0
  have O0 := hide ho0
  have B0 := hide ((Below.refl w.heap.size w).grown hg0 (Nat.le_refl _) (fun k h => by cases h))
  clear ho0 hg0
  go_wp2
  go_loopw [17] (fun vi wr => ∃ (j : Nat) (cs : List Int), j ≤ rs.length ∧ vi = .int .i64 j ∧ cs = cntL (List.replicate m.length 0) (rs.take j) ∧ Own wr w.heap.size (.slice (some ⟨w.heap.size, 0, none⟩) m.length m.length) cs ∧ Below w.heap.size w wr) (fun vi _ => rs.length - (intOf vi).toNat)
  case atStart => exact ⟨0, _, Nat.zero_le _, rfl, rfl, by simpa [cntL] using O0.out, B0.out⟩
  case round =>
    obtain ⟨j, cs, hj, rfl, hcs, ho, hb⟩ := hrel
    have B := hide hb
    have O := hide ho
    have CS := hide hcs
    clear ho hb O0 B0 hcs
    by_cases hlj : j < rs.length
    · obtain ⟨hb, hof, rfl, hc1⟩ := (V.out.below B.out).cellAt j hlj
      have hx := OK.out.2.2 j hlj
      obtain ⟨n, hn⟩ : ∃ n : Nat, rs.getD j 0 = (n : Int) := ⟨(rs.getD j 0).toNat, by omega⟩
      rw [hn] at hc1 hx
      have hnm : n < m.length := by have := hx.2.1; omega
      have hlj' : (j : Int) < (rs.length : Int) := by omega
      have hnm' : (n : Int) < (m.length : Int) := by omega
      have hcl : cs.length = m.length := by rw [CS.out]; simp [cntL_len]
      have hbd : 0 ≤ cs.getD n 0 ∧ cs.getD n 0 ≤ 100 := by
        have := (Bd.list (xs := rs.take j) (Bd.zero m.length)) n (by rw [← CS.out, hcl]; exact hnm)
        rw [← CS.out] at this
        have h7 : (rs.take j).length ≤ 6 := by simp; omega
        omega
      obtain ⟨d0, f0, o1, g1⟩ := bump_facts O.out hcl hnm
      have hst : bump cs n = cntL (List.replicate m.length 0) (rs.take (j + 1)) := by
        rw [cntL_succ _ _ _ hlj, hn, CS.out]
      have HS := hide hst
      have O1 := hide o1
      generalize cs.getD n 0 = c at *
      have hc0 := hbd.1
      have hcb := hbd.2
      clear hcl hst hbd hx o1 g1
      go_wp2
      go_roundw
      case rel =>
        refine ⟨j + 1, bump cs n, by omega, by go_num, HS.out, O1.out, ?_⟩
        exact B.out.setCell (Nat.le_refl _) _
      case measure => simp [intOf]; omega
    · obtain rfl : j = rs.length := by omega
      have C0 : Hid (cntG m rs = cntN cs m) := by
        show _ = _
        rw [CS.out, List.take_length]
        rfl
      have BD : Hid (Bd 6 cs) := by
        have := Bd.list (xs := rs) (Bd.zero m.length)
        rw [CS.out, List.take_length]
        exact this.mono (by omega)
      have L0 : Hid (cs.length = m.length) := by show _ = _; rw [CS.out]; simp [cntL_len]
      clear CS
      go_wp2
      go_loopw [30] (fun vi wr => ∃ (k : Nat) (ck : List Int), k ≤ m.length ∧ vi = .int .i64 k ∧ ck = cntN cs (m.take k) ∧ Own wr w.heap.size (.slice (some ⟨w.heap.size, 0, none⟩) m.length m.length) ck ∧ Below w.heap.size w wr) (fun vi _ => m.length - (intOf vi).toNat)
      case atStart => exact ⟨0, _, Nat.zero_le _, rfl, rfl, by simpa [cntN] using O.out, B.out⟩
      case round =>
        obtain ⟨k, ck, hk, rfl, hck, ho, hb⟩ := hrel
        have O2 := hide ho
        have B2 := hide hb
        have CK := hide hck
        clear ho hb O B hck
        by_cases hlt : k < m.length
        · obtain ⟨b, off, u0, ks, z, rfl, hx, hu, c0, c1⟩ := R.out.at k hlt
          have HX := hide hx
          have U := hide hu
          have c0' := cell_below c0 B2.out
          have c1' := cell_below c1 B2.out
          obtain ⟨ua, uc, rfl, hul, hum⟩ := U.out.slc
          obtain ⟨w1, hw1⟩ : ∃ w1, w1 = wr.alloc (.cells #[.slice ua ks.length uc, .bool z] 84) := ⟨_, rfl⟩
          have b1 : Below wr.heap.size wr w1 := by rw [hw1]; exact below_box _ _
          have BB := hide (B2.out.trans (b1.mono B2.out.size))
          have W1 := hide hw1
          have hlt' : (k : Int) < (m.length : Int) := by omega
          have hks : ks.length ≤ 6 := by
            have := (OK.out.1.2 k hlt).2.1
            rw [hx] at this
            exact this
          have OO := hide (Own.below O2.out b1)
          have BK : Hid (Bd 90 ck) := by
            have h1 := Bd.nodes (m := m.take k) BD.out
            have h2 := totN_take_six m OK.out.1.2 k hk
            rw [CK.out]
            exact h1.mono (by omega)
          have LK : Hid (ck.length = m.length) := by show _ = _; rw [CK.out, cntN_len, L0.out]
          have CN : Hid (cntN cs (m.take (k + 1)) = cntL ck ks) := by show _ = _; rw [cntN_succ _ _ _ hlt, hx, CK.out]
          clear hx hu b1 hw1 hul hum O2 c0 c1 CK
          go_wp2
          rw [← W1.out]
          go_loopw [37] (fun vi wi => ∃ (j : Nat) (cj : List Int), j ≤ ks.length ∧ vi = .int .i64 j ∧ cj = cntL ck (ks.take j) ∧ Own wi w.heap.size (.slice (some ⟨w.heap.size, 0, none⟩) m.length m.length) cj ∧ Below w.heap.size w wi) (fun vi _ => ks.length - (intOf vi).toNat)
          case atStart => exact ⟨0, _, Nat.zero_le _, rfl, rfl, by simpa [cntL] using OO.out, BB.out⟩
          case round =>
            obtain ⟨j, cj, hj, rfl, hcj, ho, hb⟩ := hrel
            have B3 := hide hb
            have O3 := hide ho
            have CJ := hide hcj
            clear ho hb OO hcj
            by_cases hlj : j < ks.length
            · obtain ⟨hb, hof, rfl, hc1⟩ := (U.out.below B3.out).cellAt j hlj
              have hx := (OK.out.1.2 k hlt).1 j (by rw [HX.out]; exact hlj)
              rw [HX.out] at hx
              obtain ⟨n, hn⟩ : ∃ n : Nat, ks.getD j 0 = (n : Int) := ⟨(ks.getD j 0).toNat, by simp only at hx; omega⟩
              simp only at hx
              rw [hn] at hc1 hx
              have hnm : n < m.length := by have := hx.2.1; omega
              have hlj' : (j : Int) < (ks.length : Int) := by omega
              have hnm' : (n : Int) < (m.length : Int) := by omega
              have hcl : cj.length = m.length := by rw [CJ.out, cntL_len, LK.out]
              have hbd : 0 ≤ cj.getD n 0 ∧ cj.getD n 0 ≤ 100 := by
                have := (Bd.list (xs := ks.take j) BK.out) n (by rw [← CJ.out, hcl]; exact hnm)
                rw [← CJ.out] at this
                have h7 : (ks.take j).length ≤ 6 := by simp; omega
                omega
              obtain ⟨d0, f0, o1, g1⟩ := bump_facts O3.out hcl hnm
              have hst : bump cj n = cntL ck (ks.take (j + 1)) := by
                rw [cntL_succ _ _ _ hlj, hn, CJ.out]
              have HS := hide hst
              have O1 := hide o1
              generalize cj.getD n 0 = c at *
              have hc0 := hbd.1
              have hcb := hbd.2
              clear hcl hst hbd hx o1 g1
              go_wp2
              go_roundw
              case rel =>
                refine ⟨j + 1, bump cj n, by omega, by go_num, HS.out, O1.out, ?_⟩
                exact B3.out.setCell (Nat.le_refl _) _
              case measure => simp [intOf]; omega
            · obtain rfl : j = ks.length := by omega
              have CE : Hid (cj = cntN cs (m.take (k + 1))) := by show _ = _; rw [CN.out, CJ.out, List.take_length]
              go_wp2
              go_roundw
              case rel => exact ⟨k + 1, cj, by omega, by go_num, CE.out, O3.out, B3.out⟩
              case measure => simp [intOf]; omega
        · obtain rfl : k = m.length := by omega
          go_wp2
          go_ret
          refine ⟨_, rfl, ?_, B2.out⟩
          have h1 := O2.out
          rw [CK.out, List.take_length, ← C0.out] at h1
          exact h1

set_option maxRecDepth 100000 in
set_option maxHeartbeats 800000 in
theorem sCountsOf_calls (v u : Value) (m : List Nd) (rs : List Int) (w : World) (h : RdN w v m) (hu : Rd w u rs) :
    Calls Try.prog 33 #[v, u] w fun e w' => ∃ c, e = .returned (.tuple #[c, .bool (decide (okG m rs))]) ∧ Own w' w.heap.size c (ctR m rs) ∧ Below w.heap.size w w' := by
  have R := hide h
  have V := hide hu
  obtain ⟨a, cap, rfl, h1, h2, h3⟩ := h
  obtain ⟨ra, rc, rfl, hr1, hr2⟩ := hu.slc
  clear h1 h2 h3 hu hr1 hr2
  by_cases hok : okG m rs
  · have E : Hid (decide (okG m rs) = true) := decide_eq_true hok
    have CT : Hid (ctR m rs = cntG m rs) := if_pos hok
    have OK := hide hok
    rw [E.out, CT.out]
    clear hok
    go_enter Try.func33, Try.ntmps33
    go_wp2_with fail
    refine (l10Nodes_calls _ _ m rs _ R.out V.out).mono ?_
    rw [E.out]
    rintro e w1 ⟨rfl, b1⟩
    have B1 := hide b1
    clear b1
    go_wp2_with fail
    refine (l10Counts_calls _ _ m rs _ (R.out.below B1.out) (V.out.below B1.out) OK.out).mono ?_
    rintro e w2 ⟨c, rfl, o2, b2⟩
    have O2 := hide (Own.mono o2 B1.out.size)
    have B2 := hide (B1.out.trans (b2.mono B1.out.size))
    clear o2 b2
    go_wp2
    go_ret2
    exact ⟨_, rfl, O2.out, B2.out⟩
  · have E : Hid (decide (okG m rs) = false) := decide_eq_false hok
    have CT : Hid (ctR m rs = []) := if_neg hok
    rw [E.out, CT.out]
    clear hok
    go_enter Try.func33, Try.ntmps33
    go_wp2_with fail
    refine (l10Nodes_calls _ _ m rs _ R.out V.out).mono ?_
    rw [E.out]
    rintro e w1 ⟨rfl, b1⟩
    have B1 := hide b1
    clear b1
    go_wp2
    go_ret2
    exact ⟨_, rfl, World.ownsRow_nil _ _ _ _, B1.out⟩
end Go.Proofs.Ytakhggnbhjoojaa
