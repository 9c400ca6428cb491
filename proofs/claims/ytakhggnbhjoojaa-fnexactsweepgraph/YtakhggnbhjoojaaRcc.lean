/-
  What is come to: the model's l10Reached and ReachedIn, call by call. Each contract says what it asks.
-/
import Derived.Test.YtakhggnbhjoojaaRcb
namespace Go.Proofs.Ytakhggnbhjoojaa
open Go.RowKit
set_option linter.unusedVariables false

theorem put_step {w w' : World} {lo : Nat} {v v' : Value} {bs : List Bool} {n : Nat} (ho : Own w lo v (selF 0 bs)) (hlo : lo ≤ w.heap.size) (hn : n < bs.length) (hv : (v' = v ∧ putS (n : Int) (selF 0 bs) = selF 0 bs) ∨ Own w' w.heap.size v' (putS (n : Int) (selF 0 bs))) (hb : Below w.heap.size w w') : Own w' lo v' (selF 0 (bs.set n true)) := by
  have e := putS_sel bs 0 n hn
  rw [Nat.zero_add] at e
  rcases hv with ⟨rfl, h⟩ | h
  · rw [← e, h]
    exact ho.below hb
  · rw [← e]
    exact Own.mono h hlo
/-- What l10Reached asks. -/
structure RcOk (m : List Nd) (rs : List Int) : Prop where
  n : m.length ≤ 14
  r : rs.length ≤ 6
  rx : ∀ i, i < rs.length → 0 ≤ rs.getD i 0 ∧ rs.getD i 0 < (m.length : Int)
  nd : LsN m
theorem good_rc {m : List Nd} {rs cs : List Int} (h : goodG m rs cs) : RcOk m rs :=
  ⟨h.1.1.1, h.1.2.1, fun i hi => ⟨(h.1.2.2 i hi).1, (h.1.2.2 i hi).2.1⟩, (good_ls h).nd⟩

set_option maxRecDepth 100000 in
set_option maxHeartbeats 3200000 in
theorem l10Reached_calls (p r : Value) (m : List Nd) (rs : List Int) (w : World) (hp : RdN w p m) (hr : Rd w r rs) (hg : RcOk m rs) :
    Calls Try.prog 79 #[p, r] w fun e w' => ∃ v, e = .returned v ∧ Own w' w.heap.size v (selF 0 (rchA m rs)) ∧ Below w.heap.size w w' := by
  have RP := hide hp
  have RR := hide hr
  have G := hide hg
  obtain ⟨pa, pc, rfl, _⟩ := hp
  obtain ⟨ra, rc, rfl, _⟩ := hr
  have hm14 : m.length ≤ 14 := hg.n
  have hr6 : rs.length ≤ 6 := hg.r
  clear hg
  go_enter Try.func79, Try.ntmps79
  go_wp2
  go_loopw [5, 13] (fun vo vi wr => ∃ (k : Nat), k ≤ rs.length ∧ vi = .int .i64 k ∧ Own wr w.heap.size vo (selF 0 (rchN (List.replicate m.length false) (rs.take k))) ∧ Below w.heap.size w wr) (fun _ vi _ => rs.length - (intOf vi).toNat)
  case atStart =>
    refine ⟨0, Nat.zero_le _, rfl, ?_, Below.refl _ _⟩
    have : selF 0 (rchN (List.replicate m.length false) (rs.take 0)) = [] := by simp [rchN, selF_none]
    rw [this]
    exact World.ownsRow_nil _ _ _ _
  case round =>
    obtain ⟨k, hk, rfl, ho, hb⟩ := hrel
    have O := hide ho
    have B := hide hb
    clear ho hb
    by_cases hlt : k < rs.length
    · have hlt' : (k : Int) < (rs.length : Int) := by omega
      obtain ⟨b, off, rfl, hc⟩ := (RR.out.below B.out).cellAt k hlt
      have hx := G.out.rx k hlt
      obtain ⟨x, hxx⟩ : ∃ x : Nat, rs.getD k 0 = (x : Int) := ⟨(rs.getD k 0).toNat, by omega⟩
      rw [hxx] at hc hx
      have NX : Hid (rchN (List.replicate m.length false) (rs.take (k + 1)) = (rchN (List.replicate m.length false) (rs.take k)).set x true) := by show _ = _; rw [rchN_succ _ _ _ hlt, hxx, Int.toNat_natCast]
      obtain ⟨bs, hbs⟩ : ∃ bs, bs = rchN (List.replicate m.length false) (rs.take k) := ⟨_, rfl⟩
      have hbl : bs.length = m.length := by rw [hbs, rchN_len, List.length_replicate]
      rw [← hbs] at O NX
      have HBL := hide hbl
      have HX : Hid (x < bs.length) := by show x < _; omega
      clear hbs hxx hx hbl
      go_wp2_with fail
      refine (l1PutE_calls _ (selF 0 bs) (x : Int) _ (Own.rd O.out) (by have := selF_len bs 0; have := HBL.out; omega)).mono ?_
      rintro e w2 ⟨v2, rfl, hv, b2⟩
      have O2 := hide (put_step O.out B.out.size HX.out hv b2)
      have B2 := hide (B.out.trans (b2.mono B.out.size))
      clear hv b2
      go_wp2
      go_round
      case rel => exact ⟨k + 1, by omega, by go_num, by rw [NX.out]; exact O2.out, B2.out⟩
      case measure => simp [intOf]; omega
    · obtain rfl : k = rs.length := by omega
      rw [List.take_length] at O
      go_wp2
      go_loopw [5, 8] (fun vo vk wr => ∃ (j : Nat) (bs : List Bool), j ≤ m.length ∧ vk = .int .i64 ((j : Int) - 1) ∧ bs.length = m.length ∧ rchD m j bs = rchA m rs ∧ Own wr w.heap.size vo (selF 0 bs) ∧ Below w.heap.size w wr) (fun _ vk _ => (intOf vk + 1).toNat)
      case atStart => exact ⟨m.length, _, Nat.le_refl _, by first | rfl | go_num, by rw [rchN_len, List.length_replicate], rfl, O.out, B.out⟩
      case round =>
        obtain ⟨j, bs, hj, rfl, hbl, hrd, ho, hb⟩ := hrel
        have O2 := hide ho
        have B2 := hide hb
        have RD := hide hrd
        have HBL := hide hbl
        clear ho hb hrd hbl O B
        cases j with
        | zero =>
          go_wp2
          go_ret
          exact ⟨_, rfl, by have := RD.out; simp only [rchD] at this; rw [← this]; exact O2.out, B2.out⟩
        | succ j =>
          have hj1 : (((j + 1 : Nat) : Int) - 1) = (j : Int) := by omega
          rw [hj1]
          have hjm : (j : Int) < (m.length : Int) := by omega
          have hj0 : (0 : Int) ≤ (j : Int) := by omega
          have HJ : Hid (j < m.length) := by show j < _; omega
          obtain ⟨y, hy⟩ : ∃ y, y = bs.getD j false := ⟨_, rfl⟩
          have HY : Hid (y = true ↔ (j : Int) ∈ selF 0 bs) := by
            have := selF_mem bs 0 j
            rw [Nat.zero_add] at this
            show _ ↔ _
            rw [hy, this]
          have RD2 : Hid (rchD m j (if y then rchN bs (m.getD j nd0).1 else bs) = rchA m rs) := by
            have := RD.out
            simp only [rchD] at this
            rw [hy]
            exact this
          clear hy hj1 RD
          go_wp2_with fail
          refine (l1HasE_calls _ (selF 0 bs) (j : Int) y _ (Own.rd O2.out) HY.out).mono ?_
          rintro e w2 ⟨rfl, rfl⟩
          cases y with
          | false =>
            go_wp2
            go_round
            case rel => exact ⟨j, bs, by omega, by first | rfl | go_num, HBL.out, by simpa using RD2.out, O2.out, B2.out⟩
            case measure => simp [intOf]
          | true =>
            obtain ⟨b, off, u, ks, z, rfl, hx, hu, d0, d1⟩ := (RP.out.below B2.out).at j HJ.out
            obtain ⟨ua, uc, rfl, _, _⟩ := hu.slc
            have HU := hide hu
            have HK := hide (G.out.nd j HJ.out)
            rw [hx] at HK RD2
            have hk6 : ks.length ≤ 6 := HK.out.1
            obtain ⟨W1, rfl⟩ : ∃ W1, W1 = wr := ⟨_, rfl⟩
            clear hu d1 hx
            go_wp2
            go_loopw [5, 37] (fun vo vi wr2 => ∃ (i : Nat), i ≤ ks.length ∧ vi = .int .i64 i ∧ Own wr2 w.heap.size vo (selF 0 (rchN bs (ks.take i))) ∧ Below W1.heap.size W1 wr2) (fun _ vi _ => ks.length - (intOf vi).toNat)
            case atStart => exact ⟨0, Nat.zero_le _, rfl, by simpa [rchN] using O2.out, Below.refl _ _⟩
            case round =>
              obtain ⟨i, hi, rfl, ho, hb⟩ := hrel
              have O3 := hide ho
              have B3 := hide hb
              clear ho hb
              by_cases hli : i < ks.length
              · have hli' : (i : Int) < (ks.length : Int) := by omega
                obtain ⟨b5, off5, rfl, hc⟩ := (HU.out.below B3.out).cellAt i hli
                have hx := HK.out.2 i hli
                try simp only at hx
                obtain ⟨x, hxx⟩ : ∃ x : Nat, ks.getD i 0 = (x : Int) := ⟨(ks.getD i 0).toNat, by omega⟩
                rw [hxx] at hc hx
                have NX : Hid (rchN bs (ks.take (i + 1)) = (rchN bs (ks.take i)).set x true) := by show _ = _; rw [rchN_succ _ _ _ hli, hxx, Int.toNat_natCast]
                obtain ⟨cs, hcs⟩ : ∃ cs, cs = rchN bs (ks.take i) := ⟨_, rfl⟩
                have hcl : cs.length = m.length := by rw [hcs, rchN_len]; exact HBL.out
                rw [← hcs] at O3 NX
                have HCL := hide hcl
                have HX : Hid (x < cs.length) := by show x < _; omega
                clear hcs hxx hx hcl
                go_wp2_with fail
                refine (l1PutE_calls _ (selF 0 cs) (x : Int) _ (Own.rd O3.out) (by have := selF_len cs 0; have := HCL.out; omega)).mono ?_
                rintro e w3 ⟨v3, rfl, hv, b3⟩
                have O4 := hide (put_step O3.out (Nat.le_trans B2.out.size B3.out.size) HX.out hv b3)
                have B4 := hide (B3.out.trans (b3.mono B3.out.size))
                clear hv b3
                go_wp2
                go_round
                case rel => exact ⟨i + 1, by omega, by go_num, by rw [NX.out]; exact O4.out, B4.out⟩
                case measure => simp [intOf]; omega
              · obtain rfl : i = ks.length := by omega
                rw [List.take_length] at O3
                have B5 := hide (B2.out.trans (B3.out.mono B2.out.size))
                go_wp2
                go_round
                case rel => exact ⟨j, rchN bs ks, by omega, by first | rfl | go_num, by rw [rchN_len]; exact HBL.out, by simpa using RD2.out, O3.out, B5.out⟩
                case measure => simp [intOf]

set_option maxRecDepth 100000 in
set_option maxHeartbeats 1600000 in
theorem sReachedIn_calls (p r c : Value) (m : List Nd) (rs cs : List Int) (ok : Bool) (w : World) (h : RdG w p r c m rs cs) (hok : ok = decide (goodG m rs cs)) :
    Calls Try.prog 30 #[.agg #[p, r, c]] w fun e w' => ∃ y, e = .returned (.tuple #[y, .bool ok]) ∧ Own w' w.heap.size y (gX ok (selF 0 (rchA m rs))) ∧ Below w.heap.size w w' := by
  have R := hide h
  have A0 := hide ((Hand.start w).box #[p, r, c] 27)
  clear h
  by_cases hg : goodG m rs cs
  case neg =>
    obtain rfl : ok = false := by rw [hok]; exact decide_eq_false hg
    have E : Hid (decide (goodG m rs cs) = false) := decide_eq_false hg
    clear hok hg
    obtain ⟨c0, c1, c2⟩ := (A0.out.atBox 0 rfl).c3
    go_enter Try.func30, Try.ntmps30
    go_wp2_with fail
    refine (sGoodGraph_calls _ _ _ m rs cs _ (R.out.below A0.out.below)).mono ?_
    rw [E.out]
    rintro e w1 ⟨rfl, b1⟩
    have A1 := hide (A0.out.step b1)
    clear b1
    go_wp2
    go_ret2
    exact ⟨_, rfl, World.ownsRow_nil _ _ _ _, A1.out.below⟩
  have E : Hid (decide (goodG m rs cs) = true) := decide_eq_true hg
  obtain rfl : ok = true := by rw [hok]; exact decide_eq_true hg
  have G := hide (good_rc hg)
  clear hok hg
  obtain ⟨c0, c1, c2⟩ := (A0.out.atBox 0 rfl).c3
  go_enter Try.func30, Try.ntmps30
  go_wp2_with fail
  refine (sGoodGraph_calls _ _ _ m rs cs _ (R.out.below A0.out.below)).mono ?_
  rw [E.out]
  rintro e w1 ⟨rfl, b1⟩
  have A1 := hide (A0.out.step b1)
  clear b1 c0 c1 c2
  obtain ⟨c0, c1, c2⟩ := (A1.out.atBox 0 rfl).c3
  go_wp2_with fail
  refine (l10Reached_calls _ _ m rs _ (R.out.below A1.out.below).1 (R.out.below A1.out.below).2.1 G.out).mono ?_
  rintro e w2 ⟨v2, rfl, o2, b2⟩
  have O2 := hide (Own.mono o2 A1.out.below.size)
  have B2 := hide (A1.out.below.trans (b2.mono A1.out.below.size))
  clear o2 b2
  go_wp2
  go_ret2
  exact ⟨_, rfl, by rw [gX_true]; exact O2.out, B2.out⟩
end Go.Proofs.Ytakhggnbhjoojaa
