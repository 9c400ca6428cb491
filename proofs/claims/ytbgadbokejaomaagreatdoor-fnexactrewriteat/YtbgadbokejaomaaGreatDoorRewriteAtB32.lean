/-
  A scrub copied by the model, under the lists' lengths alone: l16Own. The contract says what it asks. A scrub's stripe written anew by the model, on a scrub of the call's own: l16Rewrite; RewriteAt. Each contract says what it asks.
-/
import Derived.Test.YtbgadbokejaomaaGreatDoorRewriteAtB16
import Derived.Test.YtbgadbokejaomaaGreatDoorRewriteAtB31
namespace Go.Proofs.YtbgadbokejaomaaGreatDoor
open Go.RowKit
set_option linter.unusedVariables false
set_option linter.unusedSimpArgs false

set_option maxRecDepth 100000 in
set_option maxHeartbeats 3200000 in
theorem l16OwnL_calls (p h b e : Value) (cu me : Int) (P H : List ByteArray) (B : List Bool) (es : List Int) (w : World) (d : RdSc w p h b e P H B es) (hP : 0 < P.length ∧ P.length ≤ 24) (hH : H.length = P.length) (hB : B.length = P.length) (hes : es.length ≤ 1048576) :
    Calls Tryz.prog 68 #[.agg (scC p h b e cu me)] w fun x w' => ∃ p' h' b' e', x = .returned (.agg (scC p' h' b' e' cu me)) ∧ SrbV w' w.heap.size w'.heap.size p' h' b' e' P H B es ∧ Below w.heap.size w w' := by
  obtain ⟨ap, cp, ah, ch, ab, cb, ae, ce, rfl, rfl, rfl, rfl⟩ := d.sl
  have A0 := hide (Hand.two w (scC (.slice ap P.length cp) (.slice ah H.length ch) (.slice ab B.length cb) (.slice ae es.length ce) cu me) sc0 29 29)
  have D := hide d
  have CD := hide (fun W q1 q2 q3 => l7Own_calls (.slice ap P.length cp) (.slice ah H.length ch) (.slice ab B.length cb) P H B W q1 q2 q3 (by omega) (by omega) (by omega))
  have D0 := hide (d.below A0.out.below)
  have HES := hide hes
  clear d hP hH hB hes
  obtain ⟨x0, x1, x2, x3, x4, x5⟩ := (A0.out.atBox 1 rfl).c6
  go_enter Tryz.func68, Tryz.ntmps68
  go_wp2_with fail
  refine (CD.out _ D0.out.rp D0.out.rh D0.out.rb).mono ?_
  rintro x w1 ⟨p1, h1, b1, rfl, dk, q⟩
  obtain ⟨a1, k1, a2, k2, a3, k3, rfl, rfl, rfl⟩ := dk.sl
  have A1 := hide (A0.out.add q (TDsk.st _ _ _ _ _ _) dk)
  clear q dk A0 D0 CD x0 x1 x2 x3 x4 x5
  obtain ⟨y0, y1, y2, y3, y4, y5⟩ := (A1.out.atBox 2 rfl).c6
  have f0 := (A1.out.atBox 2 rfl).frozen 0
  have f1 := (A1.out.atBox 2 rfl).frozen 1
  have f2 := (A1.out.atBox 2 rfl).frozen 2
  have A2 := hide (A1.out.lay3S 2 rfl (.slice a1 P.length k1) (.slice a2 H.length k2) (.slice a3 B.length k3))
  clear A1
  obtain ⟨W2, hW2⟩ : ∃ u, u = ((w1.setCell ⟨w.heap.size, 0, none⟩ (.slice a1 P.length k1)).setCell ⟨w.heap.size, 1, none⟩ (.slice a2 H.length k2)).setCell ⟨w.heap.size, 2, none⟩ (.slice a3 B.length k3) := ⟨_, rfl⟩
  go_upto_region 2 with fail
  clear y0 y1 y2 y3 y4 y5 f0 f1 f2
  rw [← hW2] at A2 ⊢
  clear hW2
  obtain ⟨y0, y1, y2, y3, y4, y5⟩ := (A2.out.atBox 2 rfl).c6
  have f3 := (A2.out.atBox 2 rfl).frozen 3
  obtain ⟨W3, hW3⟩ : ∃ u, u = W2.alloc (.cells #[] 3) := ⟨_, rfl⟩
  have b3 : Below W2.heap.size W2 W3 := by rw [hW3]; exact below_box _ _
  have o3 : Own W3 W2.heap.size (.slice (some ⟨W2.heap.size, 0, none⟩) 0 0) [] := by
    have := World.ownsRow_lit (base := W2.heap.size) (e := 3) (size := 1) W2 #[] 0 (by simp) (Nat.zero_le _) rfl
    rw [hW3]
    exact this
  have E3 : Hid (W2.alloc (.cells #[] 3) = W3) := hW3.symm
  have U3 := hide (D.out.below (A2.out.step b3).below).re
  have B3 := hide b3
  have O3 := hide o3
  clear hW3 b3 o3
  obtain ⟨v0, v1, v2, v3, v4, v5⟩ := ((A2.out.step (below_box W2 (.cells #[] 3))).atBox 2 rfl).c6
  go_wp2_with (refine wpList_app_intS rfl _ _ rfl W2.heap.size (.slice (some ⟨W2.heap.size, 0, none⟩) 0 0) rfl [] (by rw [E3.out]; exact O3.out) (.slice ae es.length ce) rfl es (by rw [E3.out]; exact U3.out) (by have := HES.out; simp only [List.length_nil]; omega) (by rw [E3.out]; exact B3.out.size) ?_)
  rw [E3.out]
  clear v0 v1 v2 v3 v4 v5
  intro v4 w4 o4 g4 at4
  obtain ⟨a4, k4, rfl⟩ := row_slice o4
  have b4 : Below W2.heap.size W2 w4 := B3.out.grown g4 B3.out.size (fun j hj => by
    have e : W2.heap.size = j := by simpa [Value.ownBlock] using hj
    omega)
  have A4 := hide (A2.out.add b4 (TInts.st _ _) ⟨o4, row_top o4⟩)
  clear o4 g4 at4 b4 E3 U3 B3 O3 A2 y0 y1 y2 y3 y4 y5 f3
  obtain ⟨y0, y1, y2, y3, y4, y5⟩ := (A4.out.atBox 3 rfl).c6
  have f3 := (A4.out.atBox 3 rfl).frozen 3
  have A5 := hide (A4.out.layE 3 rfl (.slice a4 es.length k4))
  clear A4
  have xr := A5.out.atBox 2 rfl
  obtain ⟨z0, z1, z2, z3, z4, z5⟩ := xr.c6
  have g0 := xr.frozen 0
  have g1 := xr.frozen 1
  have g2 := xr.frozen 2
  have g3 := xr.frozen 3
  have g4 := xr.frozen 4
  have g5 := xr.frozen 5
  have A8 := hide (A5.out.store6 2 rfl (.slice a1 P.length k1) (.slice a2 H.length k2) (.slice a3 B.length k3) (.slice a4 es.length k4) (.int .i64 cu) (.int .i64 me))
  clear xr A5
  go_wp2
  exact bodyPost_ret (res_sc rfl _ _ (w.heap.size + 1) _ _ _ _ _ _ (0, 0) rfl (A8.out.atBox 2 rfl)) rfl ⟨_, _, _, _, rfl, A8.out.srb, A8.out.below⟩
end Go.Proofs.YtbgadbokejaomaaGreatDoor

namespace Go.Proofs.YtbgadbokejaomaaGreatDoor
open Go.RowKit
set_option linter.unusedVariables false
set_option linter.unusedSimpArgs false

theorem HeldG.split {W w : World} {u : Tg} {L : List Tg} : ∀ {top : Nat} {L0 : List Tg}, HeldG W w top (L0 ++ u :: L) → ∃ lo hi, (Tg.st u ∧ u lo hi w) ∧ lo ≤ hi ∧ hi ≤ top ∧ HeldG W w lo L ∧ ∀ (i : Nat) (t : Tg), L0[i]? = some t → ∃ lo2 hi2, t lo2 hi2 w ∧ hi ≤ lo2 ∧ hi2 ≤ top
  | top, [], ⟨lo, hi, h0, h1, h2, h⟩ => ⟨lo, hi, h0, h1, h2, h, fun i t h => by simp at h⟩
  | top, t0 :: L0, ⟨lo, hi, h0, h1, h2, h⟩ => by
    obtain ⟨lo', hi', e0, e1, e2, e3, e4⟩ := HeldG.split (L0 := L0) h
    refine ⟨lo', hi', e0, e1, by omega, e3, fun i t hi2 => ?_⟩
    cases i with
    | zero =>
      simp at hi2
      subst hi2
      exact ⟨lo, hi, h0.2, e2, h2⟩
    | succ j =>
      obtain ⟨a, b, c1, c2, c3⟩ := e4 j t (by simpa using hi2)
      exact ⟨a, b, c1, c2, by omega⟩
/-- A disk that lies above a scrub takes its disk's place; what lies between is let go. -/
theorem Hand.merge {W w : World} {L0 L : List Tg} {p h b p2 h2 b2 e : Value} {P H P2 H2 : List ByteArray} {B B2 : List Bool} {es : List Int} (A : Hand W w (L0 ++ TSrb p h b e P H B es :: L)) (i : Nat) (hi : L0[i]? = some (TDsk p2 h2 b2 P2 H2 B2)) :
    Hand W w (TSrb p2 h2 b2 e P2 H2 B2 es :: L) := by
  obtain ⟨lo, hi1, ⟨_, s⟩, l1, l2, rest, all⟩ := HeldG.split A.held
  obtain ⟨lo2, hi2, d, q1, q2⟩ := all i _ hi
  have s' : SrbV w lo hi1 p h b e P H B es := s
  have d' : DskV w lo2 hi2 p2 h2 b2 P2 H2 B2 := d
  exact ⟨A.below, lo, w.heap.size, ⟨TSrb.st _ _ _ _ _ _ _ _, ⟨⟨lo2, hi2, ⟨by omega, q2⟩, d', fun k hk => .inl (Nat.lt_of_lt_of_le (s'.te k hk) q1)⟩, s'.eps, fun k hk => Nat.lt_of_lt_of_le (s'.te k hk) l2⟩⟩, by omega, Nat.le_refl _, rest⟩
/-- Three values that are slices. -/
def Sl3 (p h b : Value) : Prop := ∃ a1 n1 c1 a2 n2 c2 a3 n3 c3, p = .slice a1 n1 c1 ∧ h = .slice a2 n2 c2 ∧ b = .slice a3 n3 c3
theorem Hand.tail {W w : World} {u : Tg} {L0 L : List Tg} (A : Hand W w (L0 ++ u :: L)) : Hand W w L := by
  obtain ⟨lo, hi1, _, l1, l2, rest, _⟩ := HeldG.split A.held
  exact ⟨A.below, rest.up (by omega)⟩

set_option maxRecDepth 100000 in
set_option maxHeartbeats 3200000 in
theorem l16Rewrite_calls (p h b e : Value) (cu me : Int) (P H : List ByteArray) (B : List Bool) (es : List Int) (k : Nat) (T : ByteArray) (ok : Bool) (W w : World) (LL : List Tg) (A : Hand W w (TSrb p h b e P H B es :: LL)) (th : thS P H B es cu me (k : Int)) (hok : ok = true ↔ wsOk P H B ((5 * k : Nat) : Int) (es.getD k 0 + 1) T) (hS : T.size ≤ maxLen) :
    Calls Tryz.prog 76 #[.agg (scC p h b e cu me), .int .i64 (k : Int), .string T] w fun x w' => ∃ p' h' b', x = .returned (.tuple #[.agg (scC p' h' b' e cu me), .bool ok]) ∧
      (ok = true → Hand W w' (TSrb p' h' b' e (crP P (wsH H ((5 * k : Nat) : Int) (es.getD k 0 + 1) T) (hpl (wsH H ((5 * k : Nat) : Int) (es.getD k 0 + 1) T) P.length)) (crH (wsH H ((5 * k : Nat) : Int) (es.getD k 0 + 1) T)) B (es.set k (es.getD k 0 + 1)) :: LL)) ∧ Hand W w' LL ∧ Sl3 p' h' b' := by
  obtain ⟨k0, hK, hk, k4', gk, ft, hE⟩ := thS_fits th
  obtain rfl : k = k0 := by omega
  have hk' : (k : Int) < (es.length : Int) := by omega
  have n4 : es.length ≤ 4 := th.1.1.2
  obtain ⟨lo, hi, d0, _, _, _⟩ := A.open 0 rfl
  have d0' : SrbV w lo hi p h b e P H B es := d0
  obtain ⟨a1, k1, a2, k2, a3, k3, ge, k4, rfl, rfl, rfl, rfl⟩ := d0'.sl2 (by omega)
  clear d0 d0'
  have A0 : Hid (Hand W ((w.alloc (.cells (scC (.slice a1 P.length k1) (.slice a2 H.length k2) (.slice a3 B.length k3) (.slice (some ⟨ge, 0, none⟩) es.length k4) cu me) 29)).alloc (.cells sc0 29)) (TBox (w.heap.size + 1) sc0 29 :: TBox w.heap.size (scC (.slice a1 P.length k1) (.slice a2 H.length k2) (.slice a3 B.length k3) (.slice (some ⟨ge, 0, none⟩) es.length k4) cu me) 29 :: TSrb (.slice a1 P.length k1) (.slice a2 H.length k2) (.slice a3 B.length k3) (.slice (some ⟨ge, 0, none⟩) es.length k4) P H B es :: LL)) := by
    show Hand _ _ _
    have := (A.box (scC (.slice a1 P.length k1) (.slice a2 H.length k2) (.slice a3 B.length k3) (.slice (some ⟨ge, 0, none⟩) es.length k4) cu me) 29).box sc0 29
    simpa only [World.size_alloc] using this
  have lH : (wsH H ((5 * k : Nat) : Int) (es.getD k 0 + 1) T).length = P.length := by rw [wsH_len]; exact gk.2.1
  have ROW : Hid (∀ W' L, Hand W W' (TBox (w.heap.size + 1) sc0 29 :: TBox w.heap.size (scC (.slice a1 P.length k1) (.slice a2 H.length k2) (.slice a3 B.length k3) (.slice (some ⟨ge, 0, none⟩) es.length k4) cu me) 29 :: TSrb (.slice a1 P.length k1) (.slice a2 H.length k2) (.slice a3 B.length k3) (.slice (some ⟨ge, 0, none⟩) es.length k4) P H B es :: L) → W'.cell? ⟨ge, k, none⟩ = some (.int .i64 (es.getD k 0)) ∧ RdT W' (.slice a1 P.length k1) P ∧ RdT W' (.slice a2 H.length k2) H ∧ RdZ W' (.slice a3 B.length k3) B) := fun W' L AA => by
    obtain ⟨lo, hi, d3, _⟩ := AA.open 2 rfl
    have d3' : SrbV _ lo hi (.slice a1 P.length k1) (.slice a2 H.length k2) (.slice a3 B.length k3) (.slice (some ⟨ge, 0, none⟩) es.length k4) P H B es := d3
    exact ⟨(d3'.cellE rfl k hk).1, d3'.rd.rp, d3'.rd.rh, d3'.rd.rb⟩
  have WS := hide (fun W q1 q2 q3 => sWriteStripe_calls (.slice a1 P.length k1) (.slice a2 H.length k2) (.slice a3 B.length k3) P H B ((5 * k : Nat) : Int) (es.getD k 0 + 1) T ok W hok (wfS (by omega)) hS q1 q2 q3)
  have L1 : P.length ≤ 24 := gk.1.2
  have L0 : 0 < P.length := gk.1.1
  have L3 := hide gk.2.2.1
  have LH := hide lH
  have PUTE : Hid (∀ W' L (L0 : List Tg), Hand W W' (L0 ++ TSrb (.slice a1 P.length k1) (.slice a2 H.length k2) (.slice a3 B.length k3) (.slice (some ⟨ge, 0, none⟩) es.length k4) P H B es :: L) → W'.cell? ⟨ge, k, none⟩ = some (.int .i64 (es.getD k 0)) ∧ W'.frozen? ⟨ge, k, none⟩ = false ∧ Hand W (W'.setCell ⟨ge, k, none⟩ (.int .i64 (es.getD k 0 + 1))) (L0 ++ TSrb (.slice a1 P.length k1) (.slice a2 H.length k2) (.slice a3 B.length k3) (.slice (some ⟨ge, 0, none⟩) es.length k4) P H B (es.set k (es.getD k 0 + 1)) :: L)) := fun W' L L0 AA => by
    obtain ⟨lo, hi, d3, _, _, put⟩ := AA.open (t := TSrb (.slice a1 P.length k1) (.slice a2 H.length k2) (.slice a3 B.length k3) (.slice (some ⟨ge, 0, none⟩) es.length k4) P H B es) L0.length (by simp)
    have d3' : SrbV _ lo hi (.slice a1 P.length k1) (.slice a2 H.length k2) (.slice a3 B.length k3) (.slice (some ⟨ge, 0, none⟩) es.length k4) P H B es := d3
    have PE := d3'.putE rfl k (es.getD k 0 + 1)
    have r := put _ (TSrb (.slice a1 P.length k1) (.slice a2 H.length k2) (.slice a3 B.length k3) (.slice (some ⟨ge, 0, none⟩) es.length k4) P H B (es.set k (es.getD k 0 + 1))) (TSrb.st _ _ _ _ _ _ _ _) PE.1 PE.2
    exact ⟨(d3'.cellE rfl k hk).1, (d3'.cellE rfl k hk).2, by simpa using r⟩
  generalize wsH H ((5 * k : Nat) : Int) (es.getD k 0 + 1) T = HW at WS LH ⊢
  have XE : Hid (ok = true → P = ifT ok P ∧ HW = ifT ok HW ∧ B = ifT ok B) := fun h => by subst h; exact ⟨rfl, rfl, rfl⟩
  generalize ifT ok P = XP at WS XE
  generalize ifT ok HW = XH at WS XE
  generalize ifT ok B = XB at WS XE
  obtain ⟨RE, hRE⟩ : ∃ x, x = es.set k (es.getD k 0 + 1) := ⟨_, rfl⟩
  rw [← hRE] at PUTE ⊢
  have E5 : Hid (IntKind.i64.wrap (5 * (k : Int)) = ((5 * k : Nat) : Int)) := by show _ = _; rw [wrapS2 _ (by omega) (by omega)]; omega
  have E6 : Hid (IntKind.i64.wrap (es.getD k 0 + 1) = es.getD k 0 + 1) := wrapS2 _ (by omega) (by omega)
  have E7 : Hid (wrap64 (es.getD k 0 + 1) = es.getD k 0 + 1) := wrapS _ (by omega) (by omega)
  generalize es.getD k 0 = Lk at WS E6 E7 ROW PUTE
  clear th gk ft hok lH hE A hRE hK
  obtain ⟨W3, hW3⟩ : ∃ u, u = (w.alloc (.cells (scC (.slice a1 P.length k1) (.slice a2 H.length k2) (.slice a3 B.length k3) (.slice (some ⟨ge, 0, none⟩) es.length k4) cu me) 29)).alloc (.cells sc0 29) := ⟨_, rfl⟩
  go_enter Tryz.func76, Tryz.ntmps76
  go_upto_region 1 with fail
  rw [← hW3] at A0 ⊢
  clear hW3
  have F : Hid (∀ w', Below W3.heap.size W3 w' → (w'.cell? ⟨w.heap.size, 0, none⟩ = some (.slice a1 P.length k1) ∧ w'.cell? ⟨w.heap.size, 1, none⟩ = some (.slice a2 H.length k2) ∧ w'.cell? ⟨w.heap.size, 2, none⟩ = some (.slice a3 B.length k3) ∧ w'.cell? ⟨w.heap.size, 3, none⟩ = some (.slice (some ⟨ge, 0, none⟩) es.length k4) ∧ w'.cell? ⟨w.heap.size, 4, none⟩ = some (.int .i64 cu) ∧ w'.cell? ⟨w.heap.size, 5, none⟩ = some (.int .i64 me)) ∧ w'.cell? ⟨ge, k, none⟩ = some (.int .i64 Lk)) := fun w' hb => ⟨((A0.out.step hb).atBox 1 rfl).c6, (ROW.out _ _ (A0.out.step hb)).1⟩
  have RD : Hid (∀ w', Below W3.heap.size W3 w' → RdT w' (.slice a1 P.length k1) P ∧ RdT w' (.slice a2 H.length k2) H ∧ RdZ w' (.slice a3 B.length k3) B) := fun w' hb => (ROW.out _ _ (A0.out.step hb)).2
  go_region_held3 (fun w' => (w'.cell? ⟨w.heap.size, 0, none⟩ = some (.slice a1 P.length k1) ∧ w'.cell? ⟨w.heap.size, 1, none⟩ = some (.slice a2 H.length k2) ∧ w'.cell? ⟨w.heap.size, 2, none⟩ = some (.slice a3 B.length k3) ∧ w'.cell? ⟨w.heap.size, 3, none⟩ = some (.slice (some ⟨ge, 0, none⟩) es.length k4) ∧ w'.cell? ⟨w.heap.size, 4, none⟩ = some (.int .i64 cu) ∧ w'.cell? ⟨w.heap.size, 5, none⟩ = some (.int .i64 me)) ∧ w'.cell? ⟨ge, k, none⟩ = some (.int .i64 Lk)) (first | exact F.out _ (Below.refl W3.heap.size W3).drew | exact F.out _ ((Below.refl W3.heap.size W3).drew.trans ((below_box _ (.cells #[.slice none 0 0, .slice none 0 0, .slice none 0 0] 26)).mono (Below.refl W3.heap.size W3).drew.size)) | exact F.out _ B4.out | exact F.out _ (B4.out.trans ((below_box _ _).mono B4.out.size)) | exact F.out _ (below_store3 B4.out _ (by simp) (Nat.le_refl _) _ _ _) | exact F.out _ (below_store3 (B4.out.trans ((below_box _ _).mono B4.out.size)) _ (by have := B4.out.size; simp; omega) (Nat.le_refl _) _ _ _))
    ((go_at_call 47; first | (rw [E5.out, E6.out]; refine (WS.out _ (RD.out _ (Below.refl W3.heap.size W3).drew).1 (RD.out _ (Below.refl W3.heap.size W3).drew).2.1 (RD.out _ (Below.refl W3.heap.size W3).drew).2.2).mono ?_; rintro x' w4 ⟨p2, h2, b2, rfl, d2, q2⟩; obtain ⟨m1, n1, m2, n2, m3, n3, rfl, rfl, rfl⟩ := d2.sl; have A4 := hide ((A0.out.step (Below.refl W3.heap.size W3).drew).add q2 (TDsk.st _ _ _ _ _ _) d2); have B4 := hide ((Below.refl W3.heap.size W3).drew.trans (q2.mono (Below.refl W3.heap.size W3).drew.size)); clear d2 q2; have X9 := BoxAt.new w4 #[.slice none 0 0, .slice none 0 0, .slice none 0 0] 26; obtain ⟨s0, s1, s2⟩ := X9.c3; have f0 := X9.frozen 0; have f1 := X9.frozen 1; have f2 := X9.frozen 2; have e0 := (frozen?_alloc_cells _ _ _ _).symm.trans f0; have e1 := (frozen?_alloc_cells _ _ _ _).symm.trans f1; have e2 := (frozen?_alloc_cells _ _ _ _).symm.trans f2; clear X9) | (rw [E5.out, E6.out]; refine (WS.out _ (RD.out _ ((Below.refl W3.heap.size W3).drew.trans ((below_box _ (.cells #[.slice none 0 0, .slice none 0 0, .slice none 0 0] 26)).mono (Below.refl W3.heap.size W3).drew.size))).1 (RD.out _ ((Below.refl W3.heap.size W3).drew.trans ((below_box _ (.cells #[.slice none 0 0, .slice none 0 0, .slice none 0 0] 26)).mono (Below.refl W3.heap.size W3).drew.size))).2.1 (RD.out _ ((Below.refl W3.heap.size W3).drew.trans ((below_box _ (.cells #[.slice none 0 0, .slice none 0 0, .slice none 0 0] 26)).mono (Below.refl W3.heap.size W3).drew.size))).2.2).mono ?_; rintro x' w4 ⟨p2, h2, b2, rfl, d2, q2⟩; obtain ⟨m1, n1, m2, n2, m3, n3, rfl, rfl, rfl⟩ := d2.sl; have A4 := hide (show Hand W w4 (TDsk _ _ _ _ _ _ :: TBox W3.heap.size #[.slice none 0 0, .slice none 0 0, .slice none 0 0] 26 :: _) from ((A0.out.step (Below.refl W3.heap.size W3).drew).box #[.slice none 0 0, .slice none 0 0, .slice none 0 0] 26).add q2 (TDsk.st _ _ _ _ _ _) d2); have B4 := hide (((Below.refl W3.heap.size W3).drew.trans ((below_box _ (.cells #[.slice none 0 0, .slice none 0 0, .slice none 0 0] 26)).mono (Below.refl W3.heap.size W3).drew.size)).trans (q2.mono ((Below.refl W3.heap.size W3).drew.trans ((below_box _ (.cells #[.slice none 0 0, .slice none 0 0, .slice none 0 0] 26)).mono (Below.refl W3.heap.size W3).drew.size)).size)); clear d2 q2; have X9 := (show BoxAt w4 W3.heap.size #[.slice none 0 0, .slice none 0 0, .slice none 0 0] 26 by have := A4.out.atBox 1 rfl; exact this); obtain ⟨s0, s1, s2⟩ := X9.c3; have f0 := X9.frozen 0; have f1 := X9.frozen 1; have f2 := X9.frozen 2; clear X9)))
  · have A5 := hide (A4.out.box #[.slice m1 XP.length n1, .slice m2 XH.length n2, .slice m3 XB.length n3] 26)
    clear A4 B4 F RD
    generalize w4.alloc (.cells #[.slice m1 XP.length n1, .slice m2 XH.length n2, .slice m3 XB.length n3] 26) = W5 at *
    generalize w4.heap.size = g9 at *
    cases ok with
    | false =>
      clear XE PUTE ROW
      obtain ⟨x0, x1, x2, x3, x4, x5⟩ := (A5.out.atBox 3 rfl).c6
      have xr := A5.out.atBox 2 rfl
      obtain ⟨d0, d1, d2, d3, d4, d5⟩ := xr.c6
      have g0 := xr.frozen 0
      have g1 := xr.frozen 1
      have g2 := xr.frozen 2
      have g3 := xr.frozen 3
      have g4 := xr.frozen 4
      have g5 := xr.frozen 5
      have AZ := hide (A5.out.store6 2 rfl (.slice a1 P.length k1) (.slice a2 H.length k2) (.slice a3 B.length k3) (.slice (some ⟨ge, 0, none⟩) es.length k4) (.int .i64 cu) (.int .i64 me))
      clear xr
      go_wp2
      exact bodyPost_ret (res_sc2 rfl _ _ (w.heap.size + 1) _ _ _ _ _ _ (0, 0) rfl (AZ.out.atBox 2 rfl)) rfl ⟨_, _, _, rfl, (fun h => nomatch h), Hand.tail (L0 := [_, _, _, _]) AZ.out, _, _, _, _, _, _, _, _, _, rfl, rfl, rfl⟩
    | true =>
      obtain ⟨q1, q2, q3⟩ := XE.out rfl
      subst q1 q2 q3
      clear XE ROW
      go_upto_region 4 with fail
      have AD := hide (A5.out.step (Below.refl W5.heap.size W5).drew)
      obtain ⟨loD, hiD, dD, _, hwD, putD⟩ := AD.out.open 1 rfl
      have DD : Hid (DskV _ loD hiD (.slice m1 P.length n1) (.slice m2 HW.length n2) (.slice m3 B.length n3) P HW B) := dD
      have HWD := hide hwD
      have PUTD := hide putD
      have LHD := hide (fun W (q : RdT W (.slice m2 HW.length n2) HW) => l7Held_calls (.slice m1 P.length n1) (.slice m2 HW.length n2) (.slice m3 B.length n3) HW W q (by have := LH.out; omega))
      clear dD hwD putD A5
      have XS : Hid (∀ W' L (i : Nat), Hand W W' L → L[i]? = some (TBox g9 #[.slice m1 P.length n1, .slice m2 HW.length n2, .slice m3 B.length n3] 26) → (W'.cell? ⟨g9, 0, none⟩ = some (.slice m1 P.length n1) ∧ W'.cell? ⟨g9, 1, none⟩ = some (.slice m2 HW.length n2) ∧ W'.cell? ⟨g9, 2, none⟩ = some (.slice m3 B.length n3))) := fun W' L i AA hi => (AA.atBox i hi).c3
      have KE : Hid (hpl HW HW.length = hpl HW P.length) := by show _ = _; rw [LH.out]
      go_region_held3 (fun w' => w'.cell? ⟨g9, 0, none⟩ = some (.slice m1 P.length n1) ∧ w'.cell? ⟨g9, 1, none⟩ = some (.slice m2 HW.length n2) ∧ w'.cell? ⟨g9, 2, none⟩ = some (.slice m3 B.length n3)) (first | exact XS.out _ _ 0 A8.out rfl | exact XS.out _ _ 0 A7.out rfl | exact XS.out _ _ 0 A6.out rfl | exact XS.out _ _ 0 AD.out rfl)
        ((first | (go_at_call 59; refine (l7Crash_calls (.slice m1 P.length n1) (.slice m2 HW.length n2) (.slice m3 B.length n3) _ P HW B (hpl HW P.length) loD hiD P.length w6 (DD.out.below Q6.out) (Nat.le_trans HWD.out Q6.out.size) rfl LH.out L3.out ⟨L0, L1⟩ (fun w' c => Own.rd (own_outJ O6.out (fun k hk => .inr (Nat.le_trans HWD.out (row_low O6.out k hk))) c))).mono ?_; rintro x' w7 ⟨rfl, d7, c7⟩; have A7 := hide (PUTD.out w7 (TDsk (.slice m1 P.length n1) (.slice m2 HW.length n2) (.slice m3 B.length n3) (crP P HW (hpl HW P.length)) (crH HW) B) (TDsk.st _ _ _ _ _ _) d7 ((Chg.ofBelow Q6.out).trans c7)); clear d7 c7; have xp := A7.out.atBox 3 rfl; obtain ⟨x0, x1, x2, x3, x4, x5⟩ := xp.c6; have f0 := xp.frozen 0; have f1 := xp.frozen 1; have f2 := xp.frozen 2; clear xp; have A8 := hide (A7.out.lay3S 3 rfl (.slice m1 P.length n1) (.slice m2 HW.length n2) (.slice m3 B.length n3))) | (go_at_call 61; refine (LHD.out _ DD.out.rh).mono ?_; rintro x' w6 ⟨v6, rfl, o6, q6⟩; rw [KE.out] at o6; obtain ⟨av6, cv6, rfl⟩ := row_slice o6; have O6 := hide o6; have Q6 := hide q6; have A6 := hide (AD.out.step q6); clear o6 q6)))
      clear A6 A7 AD DD HWD PUTD LHD XS Q6 O6 KE x0 x1 x2 x3 x4 x5 f0 f1 f2
      generalize ((w7.setCell ⟨w.heap.size, 0, none⟩ (.slice m1 P.length n1)).setCell ⟨w.heap.size, 1, none⟩ (.slice m2 HW.length n2)).setCell ⟨w.heap.size, 2, none⟩ (.slice m3 B.length n3) = W8 at *
      obtain ⟨y0, y1, A9'⟩ := PUTE.out W8 LL [_, _, _, _] A8.out
      have A9 := hide A9'
      clear A9'
      obtain ⟨x0, x1, x2, x3, x4, x5⟩ := (A8.out.atBox 3 rfl).c6
      have hw1 := E6.out
      have hw2 := E7.out
      clear A8 PUTE
      go_upto_region 6 with fail
      clear x0 x1 x2 x3 x4 x5 y0 y1
      try rw [hw1]
      try rw [hw2]
      generalize W8.setCell ⟨ge, k, none⟩ (.int .i64 (Lk + 1)) = W9 at *
      clear hw1 hw2
      obtain ⟨x0, x1, x2, x3, x4, x5⟩ := (A9.out.atBox 3 rfl).c6
      have xr := A9.out.atBox 2 rfl
      obtain ⟨d0, d1, d2, d3, d4, d5⟩ := xr.c6
      have g0 := xr.frozen 0
      have g1 := xr.frozen 1
      have g2 := xr.frozen 2
      have g3 := xr.frozen 3
      have g4 := xr.frozen 4
      have g5 := xr.frozen 5
      have AZ := hide (A9.out.store6 2 rfl (.slice m1 P.length n1) (.slice m2 HW.length n2) (.slice m3 B.length n3) (.slice (some ⟨ge, 0, none⟩) es.length k4) (.int .i64 cu) (.int .i64 me))
      clear xr A9
      go_wp2
      exact bodyPost_ret (res_sc2 rfl _ _ (w.heap.size + 1) _ _ _ _ _ _ (0, 0) rfl (AZ.out.atBox 2 rfl)) rfl ⟨.slice m1 P.length n1, .slice m2 HW.length n2, .slice m3 B.length n3, rfl, Hand.merge (L0 := [_, _, _, _]) (p := .slice a1 P.length k1) (h := .slice a2 H.length k2) (b := .slice a3 B.length k3) (P := P) (H := H) (B := B) (es := RE) AZ.out 1 rfl, Hand.tail (L0 := [_, _, _, _]) AZ.out, _, _, _, _, _, _, _, _, _, rfl, rfl, rfl⟩
  · have A5 := hide (A4.out.store3 1 rfl (.slice m1 XP.length n1) (.slice m2 XH.length n2) (.slice m3 XB.length n3))
    clear A4 B4 F RD
    generalize ((w4.setCell ⟨W3.heap.size, 0, none⟩ (.slice m1 XP.length n1)).setCell ⟨W3.heap.size, 1, none⟩ (.slice m2 XH.length n2)).setCell ⟨W3.heap.size, 2, none⟩ (.slice m3 XB.length n3) = W5 at *
    generalize W3.heap.size = g9 at *
    cases ok with
    | false =>
      clear XE PUTE ROW
      obtain ⟨x0, x1, x2, x3, x4, x5⟩ := (A5.out.atBox 3 rfl).c6
      have xr := A5.out.atBox 2 rfl
      obtain ⟨d0, d1, d2, d3, d4, d5⟩ := xr.c6
      have g0 := xr.frozen 0
      have g1 := xr.frozen 1
      have g2 := xr.frozen 2
      have g3 := xr.frozen 3
      have g4 := xr.frozen 4
      have g5 := xr.frozen 5
      have AZ := hide (A5.out.store6 2 rfl (.slice a1 P.length k1) (.slice a2 H.length k2) (.slice a3 B.length k3) (.slice (some ⟨ge, 0, none⟩) es.length k4) (.int .i64 cu) (.int .i64 me))
      clear xr
      go_wp2
      exact bodyPost_ret (res_sc2 rfl _ _ (w.heap.size + 1) _ _ _ _ _ _ (0, 0) rfl (AZ.out.atBox 2 rfl)) rfl ⟨_, _, _, rfl, (fun h => nomatch h), Hand.tail (L0 := [_, _, _, _]) AZ.out, _, _, _, _, _, _, _, _, _, rfl, rfl, rfl⟩
    | true =>
      obtain ⟨q1, q2, q3⟩ := XE.out rfl
      subst q1 q2 q3
      clear XE ROW
      go_upto_region 4 with fail
      have AD := hide (A5.out.step (Below.refl W5.heap.size W5).drew)
      obtain ⟨loD, hiD, dD, _, hwD, putD⟩ := AD.out.open 0 rfl
      have DD : Hid (DskV _ loD hiD (.slice m1 P.length n1) (.slice m2 HW.length n2) (.slice m3 B.length n3) P HW B) := dD
      have HWD := hide hwD
      have PUTD := hide putD
      have LHD := hide (fun W (q : RdT W (.slice m2 HW.length n2) HW) => l7Held_calls (.slice m1 P.length n1) (.slice m2 HW.length n2) (.slice m3 B.length n3) HW W q (by have := LH.out; omega))
      clear dD hwD putD A5
      have XS : Hid (∀ W' L (i : Nat), Hand W W' L → L[i]? = some (TBox g9 #[.slice m1 P.length n1, .slice m2 HW.length n2, .slice m3 B.length n3] 26) → (W'.cell? ⟨g9, 0, none⟩ = some (.slice m1 P.length n1) ∧ W'.cell? ⟨g9, 1, none⟩ = some (.slice m2 HW.length n2) ∧ W'.cell? ⟨g9, 2, none⟩ = some (.slice m3 B.length n3))) := fun W' L i AA hi => (AA.atBox i hi).c3
      have KE : Hid (hpl HW HW.length = hpl HW P.length) := by show _ = _; rw [LH.out]
      go_region_held3 (fun w' => w'.cell? ⟨g9, 0, none⟩ = some (.slice m1 P.length n1) ∧ w'.cell? ⟨g9, 1, none⟩ = some (.slice m2 HW.length n2) ∧ w'.cell? ⟨g9, 2, none⟩ = some (.slice m3 B.length n3)) (first | exact XS.out _ _ 1 A8.out rfl | exact XS.out _ _ 1 A7.out rfl | exact XS.out _ _ 1 A6.out rfl | exact XS.out _ _ 1 AD.out rfl)
        ((first | (go_at_call 59; refine (l7Crash_calls (.slice m1 P.length n1) (.slice m2 HW.length n2) (.slice m3 B.length n3) _ P HW B (hpl HW P.length) loD hiD P.length w6 (DD.out.below Q6.out) (Nat.le_trans HWD.out Q6.out.size) rfl LH.out L3.out ⟨L0, L1⟩ (fun w' c => Own.rd (own_outJ O6.out (fun k hk => .inr (Nat.le_trans HWD.out (row_low O6.out k hk))) c))).mono ?_; rintro x' w7 ⟨rfl, d7, c7⟩; have A7 := hide (PUTD.out w7 (TDsk (.slice m1 P.length n1) (.slice m2 HW.length n2) (.slice m3 B.length n3) (crP P HW (hpl HW P.length)) (crH HW) B) (TDsk.st _ _ _ _ _ _) d7 ((Chg.ofBelow Q6.out).trans c7)); clear d7 c7; have xp := A7.out.atBox 3 rfl; obtain ⟨x0, x1, x2, x3, x4, x5⟩ := xp.c6; have f0 := xp.frozen 0; have f1 := xp.frozen 1; have f2 := xp.frozen 2; clear xp; have A8 := hide (A7.out.lay3S 3 rfl (.slice m1 P.length n1) (.slice m2 HW.length n2) (.slice m3 B.length n3))) | (go_at_call 61; refine (LHD.out _ DD.out.rh).mono ?_; rintro x' w6 ⟨v6, rfl, o6, q6⟩; rw [KE.out] at o6; obtain ⟨av6, cv6, rfl⟩ := row_slice o6; have O6 := hide o6; have Q6 := hide q6; have A6 := hide (AD.out.step q6); clear o6 q6)))
      clear A6 A7 AD DD HWD PUTD LHD XS Q6 O6 KE x0 x1 x2 x3 x4 x5 f0 f1 f2
      generalize ((w7.setCell ⟨w.heap.size, 0, none⟩ (.slice m1 P.length n1)).setCell ⟨w.heap.size, 1, none⟩ (.slice m2 HW.length n2)).setCell ⟨w.heap.size, 2, none⟩ (.slice m3 B.length n3) = W8 at *
      obtain ⟨y0, y1, A9'⟩ := PUTE.out W8 LL [_, _, _, _] A8.out
      have A9 := hide A9'
      clear A9'
      obtain ⟨x0, x1, x2, x3, x4, x5⟩ := (A8.out.atBox 3 rfl).c6
      have hw1 := E6.out
      have hw2 := E7.out
      clear A8 PUTE
      go_upto_region 6 with fail
      clear x0 x1 x2 x3 x4 x5 y0 y1
      try rw [hw1]
      try rw [hw2]
      generalize W8.setCell ⟨ge, k, none⟩ (.int .i64 (Lk + 1)) = W9 at *
      clear hw1 hw2
      obtain ⟨x0, x1, x2, x3, x4, x5⟩ := (A9.out.atBox 3 rfl).c6
      have xr := A9.out.atBox 2 rfl
      obtain ⟨d0, d1, d2, d3, d4, d5⟩ := xr.c6
      have g0 := xr.frozen 0
      have g1 := xr.frozen 1
      have g2 := xr.frozen 2
      have g3 := xr.frozen 3
      have g4 := xr.frozen 4
      have g5 := xr.frozen 5
      have AZ := hide (A9.out.store6 2 rfl (.slice m1 P.length n1) (.slice m2 HW.length n2) (.slice m3 B.length n3) (.slice (some ⟨ge, 0, none⟩) es.length k4) (.int .i64 cu) (.int .i64 me))
      clear xr A9
      go_wp2
      exact bodyPost_ret (res_sc2 rfl _ _ (w.heap.size + 1) _ _ _ _ _ _ (0, 0) rfl (AZ.out.atBox 2 rfl)) rfl ⟨.slice m1 P.length n1, .slice m2 HW.length n2, .slice m3 B.length n3, rfl, Hand.merge (L0 := [_, _, _, _]) (p := .slice a1 P.length k1) (h := .slice a2 H.length k2) (b := .slice a3 B.length k3) (P := P) (H := H) (B := B) (es := RE) AZ.out 0 rfl, Hand.tail (L0 := [_, _, _, _]) AZ.out, _, _, _, _, _, _, _, _, _, rfl, rfl, rfl⟩

set_option maxRecDepth 100000 in
set_option maxHeartbeats 3200000 in
theorem sRewriteAt_calls (p h b e : Value) (cu me : Int) (P H : List ByteArray) (B : List Bool) (es : List Int) (K : Int) (T : ByteArray) (ok : Bool) (w : World) (d : RdSc w p h b e P H B es) (hok : ok = true ↔ rwQ P H B es cu me K T) (hS : T.size ≤ maxLen) :
    Calls Tryz.prog 35 #[.agg (scC p h b e cu me), .int .i64 K, .string T] w fun x w' => ∃ p' h' b' e', x = .returned (.tuple #[.agg (scC p' h' b' e' (ifI ok cu) (ifI ok me)), .bool ok]) ∧ SrbV w' w.heap.size w'.heap.size p' h' b' e' (ifS ok (rwP P H es K T)) (ifS ok (crH (rwH H es K T))) (ifS ok B) (ifS ok (rwE es K)) ∧ Below w.heap.size w w' := by
  obtain ⟨ap, cp, ah, ch, ab, cb, ae, ce, rfl, rfl, rfl, rfl⟩ := d.sl
  have D := hide d
  have A0 := hide (Hand.two w (scC (.slice ap P.length cp) (.slice ah H.length ch) (.slice ab B.length cb) (.slice ae es.length ce) cu me) sc0 29 29)
  have D0 := hide (d.below A0.out.below)
  obtain ⟨t, ht⟩ := bol_exS (thS P H B es cu me K)
  have HS := hide (fun W q => l16There_calls (.slice ap P.length cp) (.slice ah H.length ch) (.slice ab B.length cb) (.slice ae es.length ce) cu me P H B es K t W q ht)
  have HOK := hide hok
  have HT := hide ht
  clear d hok ht
  cases t with
  | false =>
    obtain rfl : ok = false := by cases ok with | false => rfl | true => have := HT.out.2 (HOK.out.1 rfl).1; simp at this
    clear HOK HT
    obtain ⟨x0, x1, x2, x3, x4, x5⟩ := (A0.out.atBox 1 rfl).c6
    go_enter Tryz.func35, Tryz.ntmps35
    go_wp2_with fail
    refine (HS.out _ D0.out).mono ?_
    rintro x w1 ⟨rfl, q⟩
    have A1 := hide (A0.out.step q)
    clear q A0 D0 HS x0 x1 x2 x3 x4 x5
    have xr := A1.out.atBox 0 rfl
    obtain ⟨d0, d1, d2, d3, d4, d5⟩ := xr.c6
    have g0 := xr.frozen 0
    have g1 := xr.frozen 1
    have g2 := xr.frozen 2
    have g3 := xr.frozen 3
    have g4 := xr.frozen 4
    have g5 := xr.frozen 5
    have AZ := hide (A1.out.store6 0 rfl (.slice none 0 0) (.slice none 0 0) (.slice none 0 0) (.slice none 0 0) (.int .i64 0) (.int .i64 0))
    clear xr
    go_wp2
    exact bodyPost_ret (res_sc2 rfl _ _ (w.heap.size + 1) _ _ _ _ _ _ (0, 0) rfl (AZ.out.atBox 0 rfl)) rfl ⟨_, _, _, _, rfl, SrbV.nil _ _ _ AZ.out.below.size, AZ.out.below⟩
  | true =>
  have TH := hide (HT.out.1 rfl)
  obtain ⟨k, hK, hk, k4', gk, ft, hE⟩ := thS_fits TH.out
  subst hK
  have n4 : es.length ≤ 4 := TH.out.1.1.2
  generalize hL : es.getD k 0 = L at hE
  have eE : epK es (k : Int) = L := by unfold epK; rw [Int.toNat_natCast, hL]
  have eQ : (5 : Int) * (k : Int) = ((5 * k : Nat) : Int) := by omega
  have hz : ok = true ↔ wsOk P H B ((5 * k : Nat) : Int) (es.getD k 0 + 1) T := by
    rw [HOK.out, hL]
    unfold rwQ
    rw [eE, eQ]
    exact ⟨fun q => q.2, fun q => ⟨TH.out, q⟩⟩
  have eH : rwH H es (k : Int) T = wsH H ((5 * k : Nat) : Int) (es.getD k 0 + 1) T := by unfold rwH; rw [eE, eQ, hL]
  have eR : rwE es (k : Int) = es.set k (es.getD k 0 + 1) := by unfold rwE; rw [eE, Int.toNat_natCast, hL]
  unfold rwP
  rw [eH, eR]
  have LR := hide (fun W' L p h b e (A : Hand w W' (TSrb p h b e P H B es :: L)) => l16Rewrite_calls p h b e cu me P H B es k T ok w W' L A TH.out hz hS)
  have CS := hide (fun W q => l16Own_calls (.slice ap P.length cp) (.slice ah H.length ch) (.slice ab B.length cb) (.slice ae es.length ce) cu me P H B es W q gk (by omega))
  have lH : (wsH H ((5 * k : Nat) : Int) (es.getD k 0 + 1) T).length = P.length := by rw [wsH_len]; exact gk.2.1
  generalize wsH H ((5 * k : Nat) : Int) (es.getD k 0 + 1) T = HW at LR lH ⊢
  have CZ : Hid (∀ p h b e W' (q : RdSc W' p h b e (crP P HW (hpl HW P.length)) (crH HW) B (es.set k (es.getD k 0 + 1))), ok = true → Calls Tryz.prog 68 #[.agg (scC p h b e cu me)] W' fun x w' => ∃ p' h' b' e', x = .returned (.agg (scC p' h' b' e' cu me)) ∧ SrbV w' W'.heap.size w'.heap.size p' h' b' e' (crP P HW (hpl HW P.length)) (crH HW) B (es.set k (es.getD k 0 + 1)) ∧ Below W'.heap.size W' w') :=
    fun p h b e W' q _ => l16OwnL_calls p h b e cu me _ _ _ _ W' q (by rw [crP_len]; exact gk.1) (by rw [crP_len]; simpa [crH] using lH) (by rw [crP_len]; exact gk.2.2.1) (by rw [List.length_set]; omega)
  generalize es.set k (es.getD k 0 + 1) = RE at LR CZ ⊢
  generalize crP P HW (hpl HW P.length) = QP at LR CZ ⊢
  generalize crH HW = QH at LR CZ ⊢
  clear HOK HT TH gk ft hz eE eQ eH eR hL lH
  obtain ⟨x0, x1, x2, x3, x4, x5⟩ := (A0.out.atBox 1 rfl).c6
  go_enter Tryz.func35, Tryz.ntmps35
  go_wp2_with fail
  refine (HS.out _ D0.out).mono ?_
  rintro x w1 ⟨rfl, q⟩
  have A1 := hide (A0.out.step q)
  clear q A0 D0 HS x0 x1 x2 x3 x4 x5
  obtain ⟨x0, x1, x2, x3, x4, x5⟩ := (A1.out.atBox 1 rfl).c6
  go_wp2_with fail
  refine (CS.out _ (D.out.below A1.out.below)).mono ?_
  rintro x w2 ⟨p2, h2, b2, e2, rfl, dk, q⟩
  obtain ⟨_, _, _, _, _, _, f4, m4, rfl, rfl, rfl, rfl⟩ := dk.sl
  have A2 := hide (A1.out.add q (TSrb.st _ _ _ _ _ _ _ _) dk)
  clear q dk A1 CS x0 x1 x2 x3 x4 x5
  go_wp2_with fail
  refine (LR.out _ _ _ _ _ _ A2.out).mono ?_
  rintro x w3 ⟨p3, h3, b3, rfl, yes, no, s1, s2, s3, s4, s5, s6, s7, s8, s9, rfl, rfl, rfl⟩
  cases ok with
  | false =>
    have A3 := hide (no.box (scC (.slice s1 s2 s3) (.slice s4 s5 s6) (.slice s7 s8 s9) (.slice f4 es.length m4) cu me) 29)
    clear yes no A2 LR CZ
    have xr := A3.out.atBox 1 rfl
    obtain ⟨d0, d1, d2, d3, d4, d5⟩ := xr.c6
    have g0 := xr.frozen 0
    have g1 := xr.frozen 1
    have g2 := xr.frozen 2
    have g3 := xr.frozen 3
    have g4 := xr.frozen 4
    have g5 := xr.frozen 5
    have AZ := hide (A3.out.store6 1 rfl (.slice none 0 0) (.slice none 0 0) (.slice none 0 0) (.slice none 0 0) (.int .i64 0) (.int .i64 0))
    clear xr
    go_wp2
    exact bodyPost_ret (res_sc2 rfl _ _ (w.heap.size + 1) _ _ _ _ _ _ (0, 0) rfl (AZ.out.atBox 1 rfl)) rfl ⟨_, _, _, _, rfl, SrbV.nil _ _ _ AZ.out.below.size, AZ.out.below⟩
  | true =>
    have A3' := yes rfl
    obtain ⟨lo3, hi3, d3, _⟩ := A3'.open 0 rfl
    have d3' : SrbV _ lo3 hi3 (.slice s1 s2 s3) (.slice s4 s5 s6) (.slice s7 s8 s9) (.slice f4 es.length m4) QP QH B RE := d3
    have A3 := hide (A3'.box (scC (.slice s1 s2 s3) (.slice s4 s5 s6) (.slice s7 s8 s9) (.slice f4 es.length m4) cu me) 29)
    have D3 := hide (d3'.rd.below (below_box w3 (.cells (scC (.slice s1 s2 s3) (.slice s4 s5 s6) (.slice s7 s8 s9) (.slice f4 es.length m4) cu me) 29)))
    clear yes no A2 LR A3' d3 d3'
    obtain ⟨x0, x1, x2, x3, x4, x5⟩ := (A3.out.atBox 0 rfl).c6
    go_wp2_with fail
    refine (CZ.out _ _ _ _ _ D3.out (by first | rfl | trivial)).mono ?_
    rintro x w4 ⟨p4, h4, b4, e4, rfl, dk, q⟩
    obtain ⟨b1, j1, b2', j2, b3', j3, b4', j4, rfl, rfl, rfl, rfl⟩ := dk.sl
    have A4 := hide (A3.out.add q (TSrb.st _ _ _ _ _ _ _ _) dk)
    clear q dk A3 D3 CZ x0 x1 x2 x3 x4 x5
    have xr := A4.out.atBox 3 rfl
    obtain ⟨d0, d1, d2, d3, d4, d5⟩ := xr.c6
    have g0 := xr.frozen 0
    have g1 := xr.frozen 1
    have g2 := xr.frozen 2
    have g3 := xr.frozen 3
    have g4 := xr.frozen 4
    have g5 := xr.frozen 5
    have AZ := hide (A4.out.store6 3 rfl (.slice b1 QP.length j1) (.slice b2' QH.length j2) (.slice b3' B.length j3) (.slice b4' RE.length j4) (.int .i64 cu) (.int .i64 me))
    clear xr A4
    go_wp2
    obtain ⟨lo5, hi5, d6, lw, hw, _⟩ := AZ.out.open 0 rfl
    have D6 : SrbV _ lo5 hi5 (.slice b1 QP.length j1) (.slice b2' QH.length j2) (.slice b3' B.length j3) (.slice b4' RE.length j4) QP QH B RE := d6
    exact bodyPost_ret (res_sc2 rfl _ _ (w.heap.size + 1) _ _ _ _ _ _ (0, 0) rfl (AZ.out.atBox 3 rfl)) rfl ⟨_, _, _, _, rfl, D6.wider lw hw, AZ.out.below⟩
end Go.Proofs.YtbgadbokejaomaaGreatDoor
