/-
  Rooms as maps of places to orders: what the program reads of good rooms. It asks that each place be one of 32, and each held order small.
-/
import Derived.Test.YtjffjoednmlkiaaPlayRoomsB13
namespace Go.Proofs.Ytjffjoednmlkiaa
open Go.RowKit Go.Maps Go.MapKept Go.ChangeMaps
set_option linter.unusedVariables false

/-- The rooms of rows, each with its order. -/
def allR : Nat → List (List Int) → List Hl
  | _, [] => []
  | o, r :: m => r.map (fun x => (x, (o : Int))) ++ allR (o + 1) m
theorem allR_app : ∀ (a b : List (List Int)) (o : Nat), allR o (a ++ b) = allR o a ++ allR (o + a.length) b
  | [], b, o => by simp [allR]
  | r :: a, b, o => by
    have := allR_app a b (o + 1)
    simp only [List.cons_append, allR, this, List.append_assoc, List.length_cons]
    rw [show o + (a.length + 1) = o + 1 + a.length from by omega]
theorem allR_succ (m : List (List Int)) (k : Nat) (h : k < m.length) : allR 0 (m.take (k + 1)) = allR 0 (m.take k) ++ (m.getD k []).map (fun x => (x, (k : Int))) := by
  rw [take_succ_getD m k [] h, allR_app]
  have e : (m.take k).length = k := by simp; omega
  simp [allR, e]
/-- Rooms put to their places. -/
def setAll (G : Om) (L : List Hl) : Om := L.foldl (fun g x => g.set x.1.toNat (some x.2)) G
theorem setAll_app (G : Om) (a b : List Hl) : setAll G (a ++ b) = setAll (setAll G a) b := List.foldl_append
theorem setAll_len : ∀ (L : List Hl) (G : Om), (setAll G L).length = G.length
  | [], G => rfl
  | x :: L, G => by
    have := setAll_len L (G.set x.1.toNat (some x.2))
    simpa [setAll] using this
theorem setAll_succ (G : Om) (L : List Hl) (k : Nat) (h : k < L.length) : setAll G (L.take (k + 1)) = (setAll G (L.take k)).set (L.getD k hl0).1.toNat (some (L.getD k hl0).2) := by
  rw [take_succ_getD L k hl0 h, setAll_app]
  rfl
/-- What ordersIn asks. -/
structure InR (m : List (List Int)) (hs : List Hl) : Prop where
  len : m.length ≤ 6
  free : ∀ o, o < m.length → (m.getD o []).length ≤ 32 ∧ ∀ i, i < (m.getD o []).length → 0 ≤ (m.getD o []).getD i 0 ∧ (m.getD o []).getD i 0 < 32
  held : ∀ i, i < hs.length → (0 ≤ (hs.getD i hl0).1 ∧ (hs.getD i hl0).1 < 32) ∧ 0 ≤ (hs.getD i hl0).2 ∧ (hs.getD i hl0).2 ≤ 5
  hlen : hs.length ≤ 32
abbrev freeG (m : List (List Int)) : Om := setAll none32 (allR 0 m)
abbrev heldM (hs : List Hl) : Om := setAll none32 hs
theorem MapAt.set {w : World} {b : Nat} {G : Om} {x y : Int} (h : MapAt w b G) (h0 : 0 ≤ x) (h1 : x < 32) (hy : wfI y) :
    ∃ w', (Instr.mapUpdate 85 (.map (some b)) (.int .i64 x) (.int .i64 y)).run Try.prog w = .ok () w' ∧ MapAt w' b (G.set x.toNat (some y)) ∧ w.grownBy w' (some b) ∧ w'.heap.size = w.heap.size := by
  obtain ⟨p, rfl⟩ : ∃ p : Nat, x = (p : Int) := ⟨x.toNat, by omega⟩
  rw [Int.toNat_natCast]
  exact h.put p (by omega) y hy

set_option maxRecDepth 100000 in
set_option maxHeartbeats 3200000 in
theorem ordersIn_calls (f h : Value) (m : List (List Int)) (hs : List Hl) (w : World) (hf : RdM w f m) (hh : RdH w h hs) (hin : InR m hs) :
    Calls Try.prog 58 #[.agg #[f, h]] w fun e w' => ∃ b c, e = .returned (.tuple #[.map (some b), .map (some c)]) ∧ b < c ∧ w.heap.size ≤ b ∧ MapAt w' b (freeG m) ∧ MapAt w' c (heldM hs) ∧ Below w.heap.size w w' := by
  obtain ⟨af, cf, rfl, q1, q2⟩ := hf.sl
  obtain ⟨ah, ch, rfl, q3, q4⟩ := hh.sl
  have RF := hide hf
  have RH := hide hh
  have ml := hin.len
  have hl := hin.hlen
  have I := hide hin
  clear hf hh hin
  have hmm := @run_makeMap Try.prog
  obtain ⟨w0, hw0⟩ : ∃ x, x = ((w.alloc (.cells #[.slice af m.length cf, .slice ah hs.length ch] 29)).alloc (.map #[] 0)).alloc (.map #[] 0) := ⟨_, rfl⟩
  have A0 := hide ((Hand.start w).box #[.slice af m.length cf, .slice ah hs.length ch] 29)
  have m1 := MapAt.new (w.alloc (.cells #[.slice af m.length cf, .slice ah hs.length ch] 29))
  have m2 := MapAt.new ((w.alloc (.cells #[.slice af m.length cf, .slice ah hs.length ch] 29)).alloc (.map #[] 0))
  simp only [World.size_alloc] at m1 m2
  have b1 := below_box (w.alloc (.cells #[.slice af m.length cf, .slice ah hs.length ch] 29)) (.map #[] 0)
  have b2 := below_box ((w.alloc (.cells #[.slice af m.length cf, .slice ah hs.length ch] 29)).alloc (.map #[] 0)) (.map #[] 0)
  have M1 := hide (m1.below b2)
  have M2 := hide m2
  have A1 := hide ((A0.out.step b1).step b2)
  clear m1 m2 b1 b2 A0
  have x0 := ((A1.out.atBox 0 rfl).c2).1
  rw [← hw0] at M1 M2 A1
  have BX := hide (A1.out.atBox 0 rfl)
  have B1 := hide A1.out.below
  have HW0 := hide hw0
  clear A1 hw0
  go_enter Try.func58, Try.ntmps58
  go_wp2_with fail
  rw [← HW0.out]
  obtain ⟨g0, hg0⟩ : ∃ g, g = w.heap.size := ⟨_, rfl⟩
  have HG0 := hide hg0
  rw [← hg0] at M1 M2 BX ⊢
  obtain ⟨cs, hcs⟩ : ∃ cs : Array Value, cs = #[.slice af m.length cf, .slice ah hs.length ch] := ⟨_, rfl⟩
  have HCS := hide hcs
  rw [← hcs] at BX
  clear hg0 x0 hcs
  go_loopw [17] (fun v wr => ∃ k : Nat, k ≤ m.length ∧ v = .int .i64 (k : Int) ∧ MapAt wr (g0 + 1) (setAll none32 (allR 0 (m.take k))) ∧ MapAt wr (g0 + 1 + 1) none32 ∧ BoxAt wr g0 cs 29 ∧ Below w.heap.size w wr) (fun v _ => m.length - (intOf v).toNat)
  case atStart => exact ⟨0, Nat.zero_le _, rfl, M1.out, M2.out, BX.out, B1.out⟩
  case round =>
    obtain ⟨k, hk, rfl, hm1, hm2, hbx, hb⟩ := hrel
    have N1 := hide hm1
    have N2 := hide hm2
    have NX := hide hbx
    have NB := hide hb
    clear hm1 hm2 hbx hb M1 M2 BX B1
    by_cases hlt : k < m.length
    · have hlt' : (k : Int) < (m.length : Int) := by omega
      obtain ⟨bb, off, u, rfl, hc', hu⟩ := RF.out.row k hlt
      have hc := cell_below hc' NB.out
      obtain ⟨ua, uc, rfl, u1, u2⟩ := hu.slc
      have RU := hide hu
      obtain ⟨rl, rin⟩ := I.out.free k hlt
      have AS := hide (allR_succ m k hlt)
      obtain ⟨r, hr⟩ : ∃ r, r = m.getD k [] := ⟨_, rfl⟩
      rw [← hr] at RU rl rin AS hc
      have RIN := hide rin
      clear hu rin hr u1 u2 hc'
      go_wp2_with fail
      obtain ⟨wo, rfl⟩ : ∃ u, u = wr := ⟨_, rfl⟩
      go_loopw [24] (fun v wx => ∃ i : Nat, i ≤ r.length ∧ v = .int .i64 (i : Int) ∧ MapAt wx (g0 + 1) (setAll (setAll none32 (allR 0 (m.take k))) ((r.map (fun x => (x, (k : Int)))).take i)) ∧ MapAt wx (g0 + 1 + 1) none32 ∧ BoxAt wx g0 cs 29 ∧ Below w.heap.size w wx) (fun v _ => r.length - (intOf v).toNat)
      case atStart => exact ⟨0, Nat.zero_le _, rfl, N1.out, N2.out, NX.out, NB.out⟩
      case round =>
        obtain ⟨i, hi, rfl, hm1, hm2, hbx, hb⟩ := hrel
        have P1 := hide hm1
        have P2 := hide hm2
        have PX := hide hbx
        have PB := hide hb
        clear hm1 hm2 hbx hb N1 N2 NX
        by_cases hli : i < r.length
        · have hli' : (i : Int) < (r.length : Int) := by omega
          obtain ⟨b2, o2, rfl, d0⟩ := (RU.out.below PB.out).cellAt i hli
          obtain ⟨x0, x1⟩ := RIN.out i hli
          have SS := setAll_succ (setAll none32 (allR 0 (m.take k))) (r.map (fun x => (x, (k : Int)))) i (by simpa using hli)
          have eg : (r.map (fun x => (x, (k : Int)))).getD i hl0 = (r.getD i 0, (k : Int)) := by
            simp [List.getD_eq_getElem?_getD, hli]
          rw [eg] at SS
          obtain ⟨x, hx⟩ : ∃ x, x = r.getD i 0 := ⟨_, rfl⟩
          rw [← hx] at d0 x0 x1 SS
          obtain ⟨w2, run2, m2, g2, s2⟩ := P1.out.set (x := x) (y := (k : Int)) x0 x1 (wfI_small (by omega) (by omega))
          have Q1 : Hid (MapAt w2 (g0 + 1) (setAll (setAll none32 (allR 0 (m.take k))) ((r.map (fun x => (x, (k : Int)))).take (i + 1)))) := by show MapAt _ _ _; rw [SS]; exact m2
          have Q2 := hide (P2.out.kept g2 (by simp))
          have QX := hide (PX.out.kept g2 (by simp))
          have QB := hide (PB.out.grown g2 PB.out.size (fun j hj => by have := HG0.out; cases hj; omega))
          clear SS eg hx m2 g2 s2 P1 P2 PX x0 x1
          go_wp2
          go_roundw
          case rel => exact ⟨i + 1, by omega, by go_num, Q1.out, Q2.out, QX.out, QB.out⟩
          case measure => simp [intOf]; omega
        · obtain rfl : i = r.length := by omega
          have Q1 : Hid (MapAt wr (g0 + 1) (setAll none32 (allR 0 (m.take (k + 1))))) := by
            show MapAt _ _ _
            have := P1.out
            have e2 : (r.map (fun x => (x, (k : Int)))).take r.length = r.map (fun x => (x, (k : Int))) := List.take_of_length_le (by simp)
            rw [e2, ← setAll_app, ← AS.out] at this
            exact this
          clear P1
          go_wp2
          go_roundw
          case rel => exact ⟨k + 1, by omega, by go_num, Q1.out, P2.out, PX.out, PB.out⟩
          case measure => simp [intOf]; omega
    · obtain rfl : k = m.length := by omega
      rw [List.take_length] at N1
      have x1 := NX.out
      rw [HCS.out] at x1
      have x2 := x1.c2.2
      have X1 := hide x1
      clear x1 hk
      go_wp2_with fail
      go_loopw [36] (fun v wx => ∃ i : Nat, i ≤ hs.length ∧ v = .int .i64 (i : Int) ∧ MapAt wx (g0 + 1) (setAll none32 (allR 0 m)) ∧ MapAt wx (g0 + 1 + 1) (setAll none32 (hs.take i)) ∧ Below w.heap.size w wx) (fun v _ => hs.length - (intOf v).toNat)
      case atStart => exact ⟨0, Nat.zero_le _, rfl, N1.out, N2.out, NB.out⟩
      case round =>
        obtain ⟨i, hi, rfl, hm1, hm2, hb⟩ := hrel
        have P1 := hide hm1
        have P2 := hide hm2
        have PB := hide hb
        clear hm1 hm2 hb N1 N2 NX X1 x2
        by_cases hli : i < hs.length
        · have hli' : (i : Int) < (hs.length : Int) := by omega
          obtain ⟨b2, o2, x, y, rfl, hx, _, d0, d1⟩ := (RH.out.below PB.out).at i hli
          obtain ⟨⟨x0, x1⟩, y0, y1⟩ := I.out.held i hli
          have SS := setAll_succ none32 hs i hli
          rw [hx] at SS x0 x1 y0 y1
          have bx := below_box wr (.cells #[.int .i64 x, .int .i64 y] 136)
          have X3 := BoxAt.new wr #[.int .i64 x, .int .i64 y] 136
          have z0 := X3.c2.1
          have z1 := X3.c2.2
          obtain ⟨w2, run2, m2, g2, s2⟩ := (P2.out.below bx).set (x := x) (y := y) x0 x1 (wfI_small (by omega) (by omega))
          have Q1 := hide ((P1.out.below bx).kept g2 (by simp))
          have Q2 : Hid (MapAt w2 (g0 + 1 + 1) (setAll none32 (hs.take (i + 1)))) := by show MapAt _ _ _; rw [SS]; exact m2
          have QB := hide ((PB.out.trans (bx.mono PB.out.size)).grown g2 (by have := PB.out.size; have := bx.size; omega) (fun j hj => by have := HG0.out; cases hj; omega))
          clear SS hx m2 g2 s2 P1 P2 X3 bx y0 y1
          go_wp2
          go_roundw
          case rel => exact ⟨i + 1, by omega, by go_num, Q1.out, Q2.out, QB.out⟩
          case measure => simp [intOf]; omega
        · obtain rfl : i = hs.length := by omega
          rw [List.take_length] at P2
          go_wp2
          go_ret2
          exact ⟨_, _, rfl, by omega, by have := HG0.out; omega, P1.out, P2.out, PB.out⟩
end Go.Proofs.Ytjffjoednmlkiaa
