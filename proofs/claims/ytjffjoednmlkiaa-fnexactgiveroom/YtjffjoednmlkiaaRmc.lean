/-
  Whether rooms are good, of the program: the held ones, the cover, the whole. Each contract says what it asks.
-/
import Derived.Test.YtjffjoednmlkiaaRmg
namespace Go.Proofs.Ytjffjoednmlkiaa
open Go.RowKit Go.Maps Go.MapKept Go.ChangeMaps
set_option linter.unusedVariables false

set_option maxRecDepth 100000 in
theorem isHeld_calls (k z : Int) (w : World) : Calls Try.prog 141 #[.agg #[.int .i64 k, .int .i64 z]] w fun e w' => e = .returned (.bool (rmB k z)) ∧ Below w.heap.size w w' := by
  have bb := hide (below_box w (.cells #[.int .i64 k, .int .i64 z] 136))
  go_enter Try.func141, Try.ntmps141
  go_wp2_with fail
  refine (isRoom_calls k z _).mono ?_
  rintro e w' ⟨rfl, rfl⟩
  go_wp2
  go_ret
  exact ⟨rfl, bb.out⟩
set_option maxRecDepth 100000 in
theorem atOf_calls (k z : Int) (w : World) : Calls Try.prog 144 #[.agg #[.int .i64 k, .int .i64 z]] w fun e w' => e = .returned (.int .i64 k) ∧ Below w.heap.size w w' := by
  have bb := hide (below_box w (.cells #[.int .i64 k, .int .i64 z] 136))
  go_enter Try.func144, Try.ntmps144
  go_wp2
  go_ret
  exact ⟨rfl, bb.out⟩

/-- What is told so far of the places. -/
def atTo (hs : List Hl) (k : Nat) : List Int := (hs.map Prod.fst).take k ++ List.replicate (hs.length - k) 0
theorem atTo_len (hs : List Hl) (k : Nat) (h : k ≤ hs.length) : (atTo hs k).length = hs.length := by simp [atTo]; omega
theorem atTo_step (hs : List Hl) (k : Nat) (h : k < hs.length) : (atTo hs k).set k (hs.getD k hl0).1 = atTo hs (k + 1) := by
  have e1 : ((hs.map Prod.fst).take k).length = k := by simp; omega
  have e2 : (hs.map Prod.fst).getD k 0 = (hs.getD k hl0).1 := by simp [List.getD_eq_getElem?_getD, h]
  unfold atTo
  rw [take_succ_getD (hs.map Prod.fst) k 0 (by simpa using h), e2, List.set_append_right _ _ (by omega), e1, Nat.sub_self]
  obtain ⟨n, hn⟩ : ∃ n, hs.length - k = n + 1 := ⟨hs.length - k - 1, by omega⟩
  have hn2 : hs.length - (k + 1) = n := by omega
  rw [hn, hn2, List.replicate_succ, List.set_cons_zero]
  simp
theorem atTo_end (hs : List Hl) : atTo hs hs.length = hs.map Prod.fst := by simp [atTo, List.take_of_length_le]
theorem atTo_zero (hs : List Hl) : atTo hs 0 = List.replicate hs.length 0 := by simp [atTo]

set_option maxRecDepth 100000 in
set_option maxHeartbeats 1600000 in
theorem eachHeld_calls (v : Value) (hs : List Hl) (w : World) (h : RdH w v hs) (hn : hs.length ≤ 1048576) :
    Calls Try.prog 143 #[v, .func (.func 144) #[] #[]] w fun e w' => ∃ v', e = .returned v' ∧ Own w' w.heap.size v' (hs.map Prod.fst) ∧ Below w.heap.size w w' := by
  have R := hide h
  obtain ⟨a, cap, rfl, q1, q2⟩ := h.sl
  clear h
  go_enter Try.func143, Try.ntmps143
  go_wp2_with (at_make; refine wpList_make_ints rfl _ _ rfl w.heap.size _ _ hs.length rfl rfl (by omega) (by omega) (by omega) (Nat.le_refl _) ?_)
  intro w0 hm0 hg0
  have M0 := hide hm0
  have B0 := hide ((Below.refl w.heap.size w).grown hg0 (Nat.le_refl _) (fun k h => by cases h))
  clear hm0 hg0
  go_wp2
  go_loopw [13] (fun vi wr => ∃ k : Nat, k ≤ hs.length ∧ vi = .int .i64 k ∧ wr.ownsRow w.heap.size 3 1 (.slice (some ⟨w.heap.size, 0, none⟩) hs.length hs.length) hs.length ((atTo hs k).map (Value.int .i64)) ∧ Below w.heap.size w wr) (fun vi _ => hs.length - (intOf vi).toNat)
  case atStart =>
    refine ⟨0, Nat.zero_le _, rfl, ?_, B0.out⟩
    have := M0.out
    rw [atTo_zero]
    unfold Own at this
    rwa [List.length_replicate] at this
  case round =>
    obtain ⟨k, hk, rfl, hown, hb⟩ := hrel
    have O := hide hown
    have B := hide hb
    clear hown hb M0 B0
    by_cases hlt : k < hs.length
    · have hlt' : (k : Int) < (hs.length : Int) := by omega
      obtain ⟨b, off, x, z, rfl, hx, _, c0, c1⟩ := (R.out.below B.out).at k hlt
      have bb := below_box wr (.cells #[.int .i64 x, .int .i64 z] 136)
      have X := BoxAt.new wr #[.int .i64 x, .int .i64 z] 136
      have d0 := X.c2.1
      have d1 := X.c2.2
      have ST := atTo_step hs k hlt
      rw [hx] at ST
      have S := hide ST
      have O2 := hide (rowsBelow O.out bb)
      have B2 := hide (B.out.trans (bb.mono B.out.size))
      clear hx ST X bb O
      go_wp2_with fail
      refine (atOf_calls x z _).mono ?_
      rintro e w1 ⟨rfl, b1⟩
      have O3 := hide (rowsBelow O2.out b1)
      have B3 := hide (B2.out.trans (b1.mono B2.out.size))
      have st := O3.out.stored k (.int .i64 x)
      have fz := O3.out.frozenAt k
      obtain ⟨old, oc⟩ : ∃ old, w1.cell? ⟨w.heap.size, k, none⟩ = some old := by
        rw [O3.out.cellAt k (by omega)]
        have := atTo_len hs k hk
        exact ⟨_, List.getElem?_eq_getElem (by simp; omega)⟩
      have ST := hide st
      clear st b1 O2 B2 d0 d1 c0 c1
      go_wp2
      go_roundw
      case rel =>
        refine ⟨k + 1, by omega, by go_num, ?_, ?_⟩
        · have := ST.out.1
          rw [← List.map_set, S.out] at this
          exact this
        · exact B3.out.setCell (Nat.le_refl _) _
      case measure => simp [intOf]; omega
    · obtain rfl : k = hs.length := by omega
      go_wp2
      go_ret
      refine ⟨_, rfl, ?_, B.out⟩
      have := O.out
      rw [atTo_end] at this
      unfold Own
      rwa [List.length_map]

set_option maxRecDepth 100000 in
set_option maxHeartbeats 1600000 in
theorem allHeld_calls (v : Value) (hs : List Hl) (w : World) (h : RdH w v hs) :
    Calls Try.prog 146 #[v, .func (.func 141) #[] #[]] w fun e w' => e = .returned (.bool (hs.all fun x => rmB x.1 x.2)) ∧ Below w.heap.size w w' := by
  have R := hide h
  obtain ⟨G, hG⟩ : ∃ G : Hl → Bool, G = (fun x => rmB x.1 x.2) := ⟨_, rfl⟩
  have C : Hid (∀ k z W, Calls Try.prog 141 #[.agg #[.int .i64 k, .int .i64 z]] W fun e w' => e = .returned (.bool (G (k, z))) ∧ Below W.heap.size W w') := by
    intro k z W
    rw [hG]
    exact isHeld_calls k z W
  rw [← hG]
  clear hG
  obtain ⟨a, cap, rfl, q1, q2⟩ := h.sl
  have hm : hs.length ≤ maxLen := by omega
  unfold maxLen at hm
  clear q1 q2 h
  go_enter Try.func146, Try.ntmps146
  go_wp2
  go_loopw [9] (fun vi wr => ∃ k : Nat, k ≤ hs.length ∧ vi = .int .i64 k ∧ (∀ i, i < k → G (hs.getD i hl0) = true) ∧ Below w.heap.size w wr) (fun vi _ => hs.length - (intOf vi).toNat)
  case atStart => exact ⟨0, Nat.zero_le _, rfl, fun i hi => by omega, Below.refl _ _⟩
  case round =>
    obtain ⟨k, hk, rfl, hall, hb⟩ := hrel
    have A := hide hall
    have B := hide hb
    clear hall hb
    by_cases hlt : k < hs.length
    · have hlt' : (k : Int) < (hs.length : Int) := by omega
      obtain ⟨b, off, x, z, rfl, hx, _, c0, c1⟩ := (R.out.below B.out).at k hlt
      have bb := below_box wr (.cells #[.int .i64 x, .int .i64 z] 136)
      have X := BoxAt.new wr #[.int .i64 x, .int .i64 z] 136
      have d0 := X.c2.1
      have d1 := X.c2.2
      have B2 := hide (B.out.trans (bb.mono B.out.size))
      have CC := hide (C.out x z)
      have HX := hide hx
      clear hx X bb
      cases hg : G (x, z) with
      | true =>
        rw [hg] at CC
        have HG := hide hg
        clear hg
        go_wp2_with fail
        refine (CC.out _).mono ?_
        rintro e w1 ⟨rfl, b1⟩
        have B3 := hide (B2.out.trans (b1.mono B2.out.size))
        clear b1
        go_wp2
        go_roundw
        case rel =>
          refine ⟨k + 1, by omega, by go_num, fun i hi => ?_, B3.out⟩
          by_cases e : i = k
          · subst e; rw [HX.out]; exact HG.out
          · exact A.out i (by omega)
        case measure => simp [intOf]; omega
      | false =>
        rw [hg] at CC
        have HG : Hid (hs.all G = false) := all_noR G hs hl0 k hlt (by rw [HX.out]; exact hg)
        clear hg
        go_wp2_with fail
        refine (CC.out _).mono ?_
        rintro e w1 ⟨rfl, b1⟩
        have B3 := hide (B2.out.trans (b1.mono B2.out.size))
        clear b1
        go_wp2
        go_ret
        rw [HG.out]
        exact ⟨rfl, B3.out⟩
    · obtain rfl : k = hs.length := by omega
      have HG : Hid (hs.all G = true) := all_takeR G hs hl0 A.out
      go_wp2
      go_ret
      rw [HG.out]
      exact ⟨rfl, B.out⟩

/-- Held rooms, by rising places. -/
def hdRow (hs : List Hl) : Bool := risesR (hs.map Prod.fst) 32 && hs.all fun x => rmB x.1 x.2
set_option maxRecDepth 100000 in
set_option maxHeartbeats 800000 in
theorem areHeld_calls (v : Value) (hs : List Hl) (w : World) (h : RdH w v hs) (hn : hs.length ≤ 1048576) :
    Calls Try.prog 115 #[v] w fun e w' => e = .returned (.bool (hdRow hs)) ∧ Below w.heap.size w w' := by
  have R := hide h
  unfold hdRow
  obtain ⟨z, hz⟩ : ∃ z, z = hs.all fun x => rmB x.1 x.2 := ⟨_, rfl⟩
  have Z := hide hz
  rw [← hz]
  clear hz h
  cases hr : risesR (hs.map Prod.fst) 32 with
  | false =>
    have HR := hide hr
    clear hr
    go_enter Try.func115, Try.ntmps115
    go_wp2_with fail
    refine (eachHeld_calls v hs w R.out hn).mono ?_
    rintro e w1 ⟨v1, rfl, o1, b1⟩
    have O := hide (Own.rd o1)
    have B := hide b1
    clear o1 b1
    go_wp2_with fail
    refine (areRising_callsR _ _ 32 _ O.out (by omega) (by omega)).mono ?_
    rw [HR.out]
    rintro e w' ⟨rfl, rfl⟩
    go_wp2
    go_ret
    exact ⟨rfl, B.out⟩
  | true =>
    have HR := hide hr
    clear hr
    rw [Bool.true_and]
    go_enter Try.func115, Try.ntmps115
    go_wp2_with fail
    refine (eachHeld_calls v hs w R.out hn).mono ?_
    rintro e w1 ⟨v1, rfl, o1, b1⟩
    have O := hide (Own.rd o1)
    have B := hide b1
    clear o1 b1
    go_wp2_with fail
    refine (areRising_callsR _ _ 32 _ O.out (by omega) (by omega)).mono ?_
    rw [HR.out]
    rintro e w' ⟨rfl, rfl⟩
    go_wp2_with fail
    refine (allHeld_calls v hs _ (R.out.below B.out)).mono ?_
    rw [← Z.out]
    rintro e w2 ⟨rfl, b2⟩
    have B2 := hide (B.out.trans (b2.mono B.out.size))
    clear b2
    go_wp2
    go_ret
    exact ⟨rfl, B2.out⟩
end Go.Proofs.Ytjffjoednmlkiaa
