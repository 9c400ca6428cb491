/-
  RewriteAt of the program, call by call. The program's table of rests must hold its seven numbers.
-/
import Derived.Test.YtbgadbokejaomaaGreatDoorRewriteAtB30
import Derived.Deep.RegionHeld3
namespace Go.Proofs.YtbgadbokejaomaaGreatDoor
open Go.RowKit
set_option linter.unusedVariables false
set_option linter.unusedSimpArgs false

/-- A stripe can be written anew; what is Held then; the lists that the scrub has then. -/
def rwQ (P H : List ByteArray) (B : List Bool) (es : List Int) (cu me K : Int) (T : ByteArray) : Prop := thS P H B es cu me K ∧ wsOk P H B (5 * K) (epK es K + 1) T
def rwH (H : List ByteArray) (es : List Int) (K : Int) (T : ByteArray) : List ByteArray := wsH H (5 * K) (epK es K + 1) T
def rwP (P H : List ByteArray) (es : List Int) (K : Int) (T : ByteArray) : List ByteArray := crP P (rwH H es K T) (hpl (rwH H es K T) P.length)
def rwE (es : List Int) (K : Int) : List Int := es.set K.toNat (epK es K + 1)
theorem wsH_len (H : List ByteArray) (A E : Int) (T : ByteArray) : (wsH H A E T).length = H.length := by unfold wsH; rw [wrTo_length]
theorem getD_setI (l : List Int) (i : Nat) (x : Int) (h : i < l.length) : (l.set i x).getD i 0 = x := by
  rw [List.getD_eq_getElem?_getD, List.getElem?_set_self h, Option.getD_some]

set_option maxRecDepth 100000 in
set_option maxHeartbeats 3200000 in
theorem rewriteAt_calls (p h b e : Value) (cu me : Int) (P H : List ByteArray) (B : List Bool) (es : List Int) (K : Int) (T : ByteArray) (ok : Bool) (w : World) (hT : Gf.Tab w) (d : RdSc w p h b e P H B es) (hok : ok = true ↔ rwQ P H B es cu me K T) (hS : T.size ≤ maxLen) :
    Calls Tryz.prog 36 #[.agg (scC p h b e cu me), .int .i64 K, .string T] w fun x w' => ∃ p' h' b' e', x = .returned (.tuple #[.agg (scC p' h' b' e' (ifI ok cu) (ifI ok me)), .bool ok]) ∧ SrbV w' w.heap.size w'.heap.size p' h' b' e' (ifS ok (rwP P H es K T)) (ifS ok (crH (rwH H es K T))) (ifS ok B) (ifS ok (rwE es K)) ∧ Below w.heap.size w w' := by
  obtain ⟨ap, cp, ah, ch, ab, cb, ae, ce, rfl, rfl, rfl, rfl⟩ := d.sl
  have TT := hide hT
  have D := hide d
  have A0 := hide (Hand.two w (scC (.slice ap P.length cp) (.slice ah H.length ch) (.slice ab B.length cb) (.slice ae es.length ce) cu me) sc0 29 29)
  have D0 := hide (d.below A0.out.below)
  obtain ⟨t, ht⟩ := bol_exS (thS P H B es cu me K)
  have HS := hide (fun W q => hasStripe_calls (.slice ap P.length cp) (.slice ah H.length ch) (.slice ab B.length cb) (.slice ae es.length ce) cu me P H B es K t W q ht)
  have HOK := hide hok
  have HT := hide ht
  clear d hok ht hT
  cases t with
  | false =>
    obtain rfl : ok = false := by cases ok with | false => rfl | true => have := HT.out.2 (HOK.out.1 rfl).1; simp at this
    clear HOK HT
    obtain ⟨x0, x1, x2, x3, x4, x5⟩ := (A0.out.atBox 1 rfl).c6
    go_enter Tryz.func36, Tryz.ntmps36
    go_wp2_with fail
    refine (HS.out _ D0.out).mono ?_
    rintro x w1 ⟨rfl, q⟩
    have A1 := hide (A0.out.step q)
    clear q A0 D0 HS x0 x1 x2 x3 x4 x5
    have xr := A1.out.atBox 0 rfl
    obtain ⟨d0, d1, d2, d3, d4, d5⟩ := xr.c6
    have g0 := xr.frozen 0
    have g1 := xr.frozen 1
    have g2 := xr.frozen 2
    have g3 := xr.frozen 3
    have g4 := xr.frozen 4
    have g5 := xr.frozen 5
    have AZ := hide (A1.out.store6 0 rfl (.slice none 0 0) (.slice none 0 0) (.slice none 0 0) (.slice none 0 0) (.int .i64 0) (.int .i64 0))
    clear xr
    go_wp2
    exact bodyPost_ret (res_sc2 rfl _ _ (w.heap.size + 1) _ _ _ _ _ _ (0, 0) rfl (AZ.out.atBox 0 rfl)) rfl ⟨_, _, _, _, rfl, SrbV.nil _ _ _ AZ.out.below.size, AZ.out.below⟩
  | true =>
  have TH := hide (HT.out.1 rfl)
  obtain ⟨k, hK, hk, k4', gk, ft, hE⟩ := thS_fits TH.out
  subst hK
  have hk' : (k : Int) < (es.length : Int) := by omega
  have h0 : 0 < es.length := by omega
  have n4 : es.length ≤ 4 := TH.out.1.1.2
  generalize hL : es.getD k 0 = L at hE
  have eE : epK es (k : Int) = L := by unfold epK; rw [Int.toNat_natCast, hL]
  have eQ : (5 : Int) * (k : Int) = ((5 * k : Nat) : Int) := by omega
  obtain ⟨z, hz⟩ := bol_exS (wsOk P H B ((5 * k : Nat) : Int) (L + 1) T)
  obtain rfl : ok = z := by
    rw [Bool.eq_iff_iff, HOK.out, hz]
    unfold rwQ
    rw [eE, eQ]
    exact ⟨fun q => q.2, fun q => ⟨TH.out, q⟩⟩
  have eH : rwH H es (k : Int) T = wsH H ((5 * k : Nat) : Int) (L + 1) T := by unfold rwH; rw [eE, eQ]
  have eR : rwE es (k : Int) = es.set k (L + 1) := by unfold rwE; rw [eE, Int.toNat_natCast]
  have lH : (wsH H ((5 * k : Nat) : Int) (L + 1) T).length = P.length := by rw [wsH_len]; exact gk.2.1
  unfold rwP
  rw [eH, eR]
  obtain ⟨RE, hRE⟩ : ∃ x, x = es.set k (L + 1) := ⟨_, rfl⟩
  rw [← hRE]
  have HRE := hide hRE
  clear hRE
  have WS := hide (fun W q0 q1 q2 q3 => writeStripe_calls (.slice ap P.length cp) (.slice ah H.length ch) (.slice ab B.length cb) P H B ((5 * k : Nat) : Int) (L + 1) T ok W q0 hz (wfS (by omega)) hS q1 q2 q3)
  have CS := hide (fun W q => copyScrub_calls (.slice ap P.length cp) (.slice ah H.length ch) (.slice ab B.length cb) (.slice ae es.length ce) cu me P H B es W q gk (by have := n4; omega))
  have L1 : P.length ≤ 24 := gk.1.2
  have L0 : 0 < P.length := gk.1.1
  have L3 := hide gk.2.2.1
  have LH := hide lH
  have FS := hide (fun W => firstSector_calls k W (by omega))
  have hw1 : wrap64 (L + 1) = L + 1 := wrapS _ (by omega) (by omega)
  have hw2 : IntKind.i64.wrap (L + 1) = L + 1 := wrapS2 _ (by omega) (by omega)
  generalize wsH H ((5 * k : Nat) : Int) (L + 1) T = HW at WS LH ⊢
  have XE : Hid (ok = true → P = ifT ok P ∧ HW = ifT ok HW ∧ B = ifT ok B) := fun h => by subst h; exact ⟨rfl, rfl, rfl⟩
  generalize ifT ok P = XP at WS XE
  generalize ifT ok HW = XH at WS XE
  generalize ifT ok B = XB at WS XE
  have HL := hide hL
  clear HOK HT TH gk ft hz eE eQ eH eR lH hL hE
  obtain ⟨x0, x1, x2, x3, x4, x5⟩ := (A0.out.atBox 1 rfl).c6
  go_enter Tryz.func36, Tryz.ntmps36
  go_wp2_with fail
  refine (HS.out _ D0.out).mono ?_
  rintro x w1 ⟨rfl, q⟩
  have A1 := hide (A0.out.step q)
  clear q A0 D0 HS x0 x1 x2 x3 x4 x5
  obtain ⟨x0, x1, x2, x3, x4, x5⟩ := (A1.out.atBox 1 rfl).c6
  go_wp2_with fail
  refine (CS.out _ (D.out.below A1.out.below)).mono ?_
  rintro x w2 ⟨p1, h1, b1, e1, rfl, dk, q⟩
  obtain ⟨a1, k1, a2, k2, a3, k3, ge, k4, rfl, rfl, rfl, rfl⟩ := dk.sl2 h0
  have A2 := hide ((A1.out.add q (TSrb.st _ _ _ _ _ _ _ _) dk).box (scC (.slice a1 P.length k1) (.slice a2 H.length k2) (.slice a3 B.length k3) (.slice (some ⟨ge, 0, none⟩) es.length k4) cu me) 29)
  clear q dk A1 CS x0 x1 x2 x3 x4 x5
  obtain ⟨lo, hi, d3, lw, hw, put⟩ := A2.out.open 1 rfl
  have d3' : SrbV _ lo hi (.slice a1 P.length k1) (.slice a2 H.length k2) (.slice a3 B.length k3) (.slice (some ⟨ge, 0, none⟩) es.length k4) P H B es := d3
  obtain ⟨y0, y1⟩ := d3'.cellE rfl k hk
  rw [HL.out] at y0
  have PE := d3'.putE rfl k (L + 1)
  have A3 := hide (put _ (TSrb (.slice a1 P.length k1) (.slice a2 H.length k2) (.slice a3 B.length k3) (.slice (some ⟨ge, 0, none⟩) es.length k4) P H B (es.set k (L + 1))) (TSrb.st _ _ _ _ _ _ _ _) PE.1 PE.2)
  clear d3 d3' lw hw put PE
  have KE : Hid ((es.set k (L + 1)).getD k 0 = L + 1 ∧ (es.set k (L + 1)).length = es.length) := ⟨getD_setI _ _ _ hk, List.length_set⟩
  obtain ⟨x0, x1, x2, x3, x4, x5⟩ := (A2.out.atBox 0 rfl).c6
  clear A2
  go_upto_region 5 with fail
  clear x0 x1 x2 x3 x4 x5 y0 y1
  obtain ⟨g8, hg8⟩ : ∃ g8, g8 = w2.heap.size := ⟨_, rfl⟩
  rw [← hg8] at A3 ⊢
  clear hg8
  rw [← HRE.out] at A3 KE
  clear HRE
  generalize L + 1 = E at *
  obtain ⟨W3, hW3⟩ : ∃ u, u = (w2.alloc (.cells (scC (.slice a1 P.length k1) (.slice a2 H.length k2) (.slice a3 B.length k3) (.slice (some ⟨ge, 0, none⟩) es.length k4) cu me) 29)).setCell ⟨ge, k, none⟩ (.int .i64 E) := ⟨_, rfl⟩
  rw [← hW3] at A3 ⊢
  clear hW3 hw1 hw2
  have F : Hid (∀ w', Below W3.heap.size W3 w' → (w'.cell? ⟨w.heap.size, 0, none⟩ = some (.slice ap P.length cp) ∧ w'.cell? ⟨w.heap.size, 1, none⟩ = some (.slice ah H.length ch) ∧ w'.cell? ⟨w.heap.size, 2, none⟩ = some (.slice ab B.length cb) ∧ w'.cell? ⟨w.heap.size, 3, none⟩ = some (.slice ae es.length ce) ∧ w'.cell? ⟨w.heap.size, 4, none⟩ = some (.int .i64 cu) ∧ w'.cell? ⟨w.heap.size, 5, none⟩ = some (.int .i64 me)) ∧ (w'.cell? ⟨g8, 0, none⟩ = some (.slice a1 P.length k1) ∧ w'.cell? ⟨g8, 1, none⟩ = some (.slice a2 H.length k2) ∧ w'.cell? ⟨g8, 2, none⟩ = some (.slice a3 B.length k3) ∧ w'.cell? ⟨g8, 3, none⟩ = some (.slice (some ⟨ge, 0, none⟩) es.length k4) ∧ w'.cell? ⟨g8, 4, none⟩ = some (.int .i64 cu) ∧ w'.cell? ⟨g8, 5, none⟩ = some (.int .i64 me)) ∧ w'.cell? ⟨ge, k, none⟩ = some (.int .i64 E)) := fun w' hb => ⟨((A3.out.step hb).atBox 3 rfl).c6, ((A3.out.step hb).atBox 0 rfl).c6, by
    obtain ⟨lo, hi, d3, _⟩ := (A3.out.step hb).open 1 rfl
    have d3' : SrbV _ lo hi (.slice a1 P.length k1) (.slice a2 H.length k2) (.slice a3 B.length k3) (.slice (some ⟨ge, 0, none⟩) es.length k4) P H B RE := d3
    rw [(d3'.cellE KE.out.2 k hk).1, KE.out.1]⟩
  refine wp_region_noPanic ?_
  refine wp_region_held_drew (S := (fun w' => (w'.cell? ⟨w.heap.size, 0, none⟩ = some (.slice ap P.length cp) ∧ w'.cell? ⟨w.heap.size, 1, none⟩ = some (.slice ah H.length ch) ∧ w'.cell? ⟨w.heap.size, 2, none⟩ = some (.slice ab B.length cb) ∧ w'.cell? ⟨w.heap.size, 3, none⟩ = some (.slice ae es.length ce) ∧ w'.cell? ⟨w.heap.size, 4, none⟩ = some (.int .i64 cu) ∧ w'.cell? ⟨w.heap.size, 5, none⟩ = some (.int .i64 me)) ∧ (w'.cell? ⟨g8, 0, none⟩ = some (.slice a1 P.length k1) ∧ w'.cell? ⟨g8, 1, none⟩ = some (.slice a2 H.length k2) ∧ w'.cell? ⟨g8, 2, none⟩ = some (.slice a3 B.length k3) ∧ w'.cell? ⟨g8, 3, none⟩ = some (.slice (some ⟨ge, 0, none⟩) es.length k4) ∧ w'.cell? ⟨g8, 4, none⟩ = some (.int .i64 cu) ∧ w'.cell? ⟨g8, 5, none⟩ = some (.int .i64 me)) ∧ w'.cell? ⟨ge, k, none⟩ = some (.int .i64 E))) (by kernel_rfl) (F.out _ (Below.refl W3.heap.size W3).drew) (fun hHeld => ?_)
  have AX0 := hide (A3.out.step (Below.refl W3.heap.size W3).drew)
  have BX0 := hide ((Below.refl W3.heap.size W3).drew)
  clear A3
  generalize W3.drew = u0 at *
  refine wpAnyH_take (i := 0) (v := ?v1) rfl (by kernel_rfl) (by kernel_rfl) (by kernel_rfl) (fun _ _ _ h => h) (Or.inl ⟨by rfl, ?hy1⟩) (by assumption) ?rest1
  case hy1 => (intro w' hSw; dsimp only [List.getElem_toArray, List.getElem_cons_zero, List.getElem_cons_succ] at hSw ⊢; go_simp; try (with_reducible rfl))
  try simp only [Act.put, List.getElem_toArray, List.getElem_cons_zero, List.getElem_cons_succ, List.setIfInBounds_toArray, List.set_cons_zero, List.set_cons_succ]
  refine wpAnyH_take (i := 1) (v := ?v2) rfl (by kernel_rfl) (by kernel_rfl) (by kernel_rfl) (fun _ _ _ h => h) (Or.inl ⟨by rfl, ?hy2⟩) (by assumption) ?rest2
  case hy2 => (intro w' hSw; dsimp only [List.getElem_toArray, List.getElem_cons_zero, List.getElem_cons_succ] at hSw ⊢; go_simp; try (with_reducible rfl))
  try simp only [Act.put, List.getElem_toArray, List.getElem_cons_zero, List.getElem_cons_succ, List.setIfInBounds_toArray, List.set_cons_zero, List.set_cons_succ]
  refine wpAnyH_take (i := 2) (v := ?v3) rfl (by kernel_rfl) (by kernel_rfl) (by kernel_rfl) (fun _ _ _ h => h) (Or.inl ⟨by rfl, ?hy3⟩) (by assumption) ?rest3
  case hy3 => (intro w' hSw; dsimp only [List.getElem_toArray, List.getElem_cons_zero, List.getElem_cons_succ] at hSw ⊢; go_simp; try (with_reducible rfl))
  try simp only [Act.put, List.getElem_toArray, List.getElem_cons_zero, List.getElem_cons_succ, List.setIfInBounds_toArray, List.set_cons_zero, List.set_cons_succ]
  refine wpAnyH_take (i := 4) (v := ?v4) rfl (by kernel_rfl) (by kernel_rfl) (by kernel_rfl) (fun _ _ _ h => h) (Or.inl ⟨by rfl, ?hy4⟩) (by assumption) ?rest4
  case hy4 => (intro w' hSw; dsimp only [List.getElem_toArray, List.getElem_cons_zero, List.getElem_cons_succ] at hSw ⊢; go_simp; try (with_reducible rfl))
  try simp only [Act.put, List.getElem_toArray, List.getElem_cons_zero, List.getElem_cons_succ, List.setIfInBounds_toArray, List.set_cons_zero, List.set_cons_succ]
  refine wpAnyH_take (i := 5) (v := ?v5) rfl (by kernel_rfl) (by kernel_rfl) (by kernel_rfl) (fun _ _ _ h => h) (Or.inl ⟨by rfl, ?hy5⟩) (by assumption) ?rest5
  case hy5 => (intro w' hSw; dsimp only [List.getElem_toArray, List.getElem_cons_zero, List.getElem_cons_succ] at hSw ⊢; go_simp; try (with_reducible rfl))
  try simp only [Act.put, List.getElem_toArray, List.getElem_cons_zero, List.getElem_cons_succ, List.setIfInBounds_toArray, List.set_cons_zero, List.set_cons_succ]
  refine wpAnyH_take (i := 6) (v := ?v6) rfl (by kernel_rfl) (by kernel_rfl) (by kernel_rfl) (fun _ _ _ h => h) (Or.inl ⟨by rfl, ?hy6⟩) (by assumption) ?rest6
  case hy6 => (intro w' hSw; dsimp only [List.getElem_toArray, List.getElem_cons_zero, List.getElem_cons_succ] at hSw ⊢; go_simp; try (with_reducible rfl))
  try simp only [Act.put, List.getElem_toArray, List.getElem_cons_zero, List.getElem_cons_succ, List.setIfInBounds_toArray, List.set_cons_zero, List.set_cons_succ]
  refine wpAnyH_take (i := 7) (v := ?v7) rfl (by kernel_rfl) (by kernel_rfl) (by kernel_rfl) (fun _ _ _ h => h) (Or.inl ⟨by rfl, ?hy7⟩) (by assumption) ?rest7
  case hy7 => (intro w' hSw; dsimp only [List.getElem_toArray, List.getElem_cons_zero, List.getElem_cons_succ] at hSw ⊢; go_simp; try (with_reducible rfl))
  try simp only [Act.put, List.getElem_toArray, List.getElem_cons_zero, List.getElem_cons_succ, List.setIfInBounds_toArray, List.set_cons_zero, List.set_cons_succ]
  refine wpAnyH_take (i := 8) (v := ?v8) rfl (by kernel_rfl) (by kernel_rfl) (by kernel_rfl) (fun _ _ _ h => h) (Or.inl ⟨by rfl, ?hy8⟩) (by assumption) ?rest8
  case hy8 => (intro w' hSw; dsimp only [List.getElem_toArray, List.getElem_cons_zero, List.getElem_cons_succ] at hSw ⊢; go_simp; try (with_reducible rfl))
  try simp only [Act.put, List.getElem_toArray, List.getElem_cons_zero, List.getElem_cons_succ, List.setIfInBounds_toArray, List.set_cons_zero, List.set_cons_succ]
  refine wpAnyH_take (i := 9) (v := ?v9) rfl (by kernel_rfl) (by kernel_rfl) (by kernel_rfl) (fun _ _ _ h => h) (Or.inl ⟨by rfl, ?hy9⟩) (by assumption) ?rest9
  case hy9 => (intro w' hSw; dsimp only [List.getElem_toArray, List.getElem_cons_zero, List.getElem_cons_succ] at hSw ⊢; go_simp; try (with_reducible rfl))
  try simp only [Act.put, List.getElem_toArray, List.getElem_cons_zero, List.getElem_cons_succ, List.setIfInBounds_toArray, List.set_cons_zero, List.set_cons_succ]
  refine wpAnyH_ready (rs := [3, 14]) (by kernel_rfl) (by simp) ?_
  refine (AllReadyH.cons rfl (fun KK hK => ?_) (AllReadyH.cons rfl (fun KK hK => ?_) AllReadyH.nil))
  · dsimp only [List.getElem_toArray, List.getElem_cons_zero, List.getElem_cons_succ]
    go_simp
    refine (FS.out _).mono ?_
    rintro e' uf ⟨rfl, rfl⟩
    clear hHeld
    refine hK.out _ _ (F.out _ BX0.out) (fun hHeld => ?_)
    clear hK KK
    try simp only [Act.put, List.getElem_toArray, List.getElem_cons_zero, List.getElem_cons_succ, List.setIfInBounds_toArray, List.set_cons_zero, List.set_cons_succ]
    refine wpAnyH_ready (rs := [10, 14]) (by kernel_rfl) (by simp) ?_
    refine (AllReadyH.cons rfl (fun KK hK => ?_) (AllReadyH.cons rfl (fun KK hK => ?_) AllReadyH.nil))
    · dsimp only [List.getElem_toArray, List.getElem_cons_zero, List.getElem_cons_succ]
      go_simp
      refine (WS.out _ (Gf.Tab.below TT.out AX0.out.below) (D.out.below AX0.out.below).rp (D.out.below AX0.out.below).rh (D.out.below AX0.out.below).rb).mono ?_
      rintro e' w4 ⟨p2, h2, b2, rfl, d2, q2⟩
      obtain ⟨m1, n1, m2, n2, m3, n3, rfl, rfl, rfl⟩ := d2.sl
      have AX2 := hide (AX0.out.add q2 (TDsk.st _ _ _ _ _ _) d2)
      have BX2 := hide (BX0.out.trans (q2.mono BX0.out.size))
      clear d2 q2 hHeld AX0 BX0
      refine hK.out _ _ (F.out _ BX2.out) (fun hHeld => ?_)
      clear hK KK
      try simp only [Act.put, List.getElem_toArray, List.getElem_cons_zero, List.getElem_cons_succ, List.setIfInBounds_toArray, List.set_cons_zero, List.set_cons_succ]
      refine wpAnyH_take (i := 11) (v := ?v10) rfl (by kernel_rfl) (by kernel_rfl) (by kernel_rfl) (fun _ _ _ h => h) (Or.inl ⟨by rfl, ?hy10⟩) (by assumption) ?rest10
      case hy10 => (intro w' hSw; dsimp only [List.getElem_toArray, List.getElem_cons_zero, List.getElem_cons_succ] at hSw ⊢; go_simp; try (with_reducible rfl))
      try simp only [Act.put, List.getElem_toArray, List.getElem_cons_zero, List.getElem_cons_succ, List.setIfInBounds_toArray, List.set_cons_zero, List.set_cons_succ]
      refine wpAnyH_take (i := 12) (v := ?v11) rfl (by kernel_rfl) (by kernel_rfl) (by kernel_rfl) (fun _ _ _ h => h) (Or.inl ⟨by rfl, ?hy11⟩) (by assumption) ?rest11
      case hy11 => (intro w' hSw; dsimp only [List.getElem_toArray, List.getElem_cons_zero, List.getElem_cons_succ] at hSw ⊢; go_simp; try (with_reducible rfl))
      try simp only [Act.put, List.getElem_toArray, List.getElem_cons_zero, List.getElem_cons_succ, List.setIfInBounds_toArray, List.set_cons_zero, List.set_cons_succ]
      refine wpAnyH_take (i := 13) (v := ?v12) rfl (by kernel_rfl) (by kernel_rfl) (by kernel_rfl) (fun _ _ _ h => h) (Or.inl ⟨by rfl, ?hy12⟩) (by assumption) ?rest12
      case hy12 => (intro w' hSw; dsimp only [List.getElem_toArray, List.getElem_cons_zero, List.getElem_cons_succ] at hSw ⊢; go_simp; try (with_reducible rfl))
      try simp only [Act.put, List.getElem_toArray, List.getElem_cons_zero, List.getElem_cons_succ, List.setIfInBounds_toArray, List.set_cons_zero, List.set_cons_succ]
      refine wpAnyH_ready (rs := [14]) (by kernel_rfl) (by simp) ?_
      refine (AllReadyH.cons rfl (fun KK hK => ?_) AllReadyH.nil)
      dsimp only [List.getElem_toArray, List.getElem_cons_zero, List.getElem_cons_succ]
      go_simp
      have AX3 := hide (AX2.out.box #[.slice none 0 0, .slice none 0 0, .slice none 0 0] 26)
      have BX3 := hide (BX2.out.trans ((below_box _ (.cells #[.slice none 0 0, .slice none 0 0, .slice none 0 0] 26)).mono BX2.out.size))
      have GL := hide BX2.out.size
      clear hHeld AX2 BX2
      obtain ⟨g9, hg9⟩ : ∃ g9 : Nat, g9 = w4.heap.size := ⟨_, rfl⟩
      rw [← hg9] at AX3 GL
      rw [← hg9]
      clear hg9
      generalize w4.alloc (.cells #[.slice none 0 0, .slice none 0 0, .slice none 0 0] 26) = u4 at *
      refine hK.out _ _ (F.out _ BX3.out) (fun hHeld => ?_)
      clear hK KK
      try simp only [Act.put, List.getElem_toArray, List.getElem_cons_zero, List.getElem_cons_succ, List.setIfInBounds_toArray, List.set_cons_zero, List.set_cons_succ]
      refine wpAnyH_ready (rs := [15]) (by kernel_rfl) (by simp) ?_
      refine (AllReadyH.cons rfl (fun KK hK => ?_) AllReadyH.nil)
      obtain ⟨z0, z1, z2⟩ := (AX3.out.atBox 0 rfl).c3
      have y0 := (AX3.out.atBox 0 rfl).frozen 0
      have y1 := (AX3.out.atBox 0 rfl).frozen 1
      have y2 := (AX3.out.atBox 0 rfl).frozen 2
      dsimp only [List.getElem_toArray, List.getElem_cons_zero, List.getElem_cons_succ]
      go_simp
      clear z0 z1 z2 y0 y1 y2
      have AX4 := hide (AX3.out.store3 0 rfl (.slice m1 XP.length n1) (.slice m2 XH.length n2) (.slice m3 XB.length n3))
      have BX4 := hide (below_store3 BX3.out g9 GL.out (Nat.le_refl _) (.slice m1 XP.length n1) (.slice m2 XH.length n2) (.slice m3 XB.length n3))
      clear hHeld AX3 BX3
      refine hK.out _ _ (F.out _ BX4.out) (fun hHeld => ?_)
      clear hK KK
      try simp only [Act.put, List.getElem_toArray, List.getElem_cons_zero, List.getElem_cons_succ, List.setIfInBounds_toArray, List.set_cons_zero, List.set_cons_succ]
      refine wpAnyH_ready (rs := [16]) (by kernel_rfl) (by simp) ?_
      refine AllReadyH.cons rfl (fun KK hK => ?_) AllReadyH.nil
      dsimp only [List.getElem_toArray, List.getElem_cons_zero, List.getElem_cons_succ]
      go_simp
      refine hK.out _ _ (F.out _ BX4.out) (fun hHeld => ?_)
      clear hK KK
      try simp only [Act.put, List.getElem_toArray, List.getElem_cons_zero, List.getElem_cons_succ, List.setIfInBounds_toArray, List.set_cons_zero, List.set_cons_succ]
      refine wpAnyH_done (by kernel_rfl) ?_ _
      refine NoPanic.normal ?_
      clear hHeld
      have X9 := hide (AX4.out.atBox 0 rfl)
      have AF := hide (AX4.out.drop0)
      clear AX4 BX4
      generalize (((u4.setCell ⟨g9, 0, none⟩ (.slice m1 XP.length n1)).setCell ⟨g9, 1, none⟩ (.slice m2 XH.length n2)).setCell ⟨g9, 2, none⟩ (.slice m3 XB.length n3)) = W5 at *
      cases ok with
      | false =>
        clear X9 GL
        have xr := AF.out.atBox 3 rfl
        obtain ⟨d0, d1, d2, d3, d4, d5⟩ := xr.c6
        have g0 := xr.frozen 0
        have g1 := xr.frozen 1
        have g2 := xr.frozen 2
        have g3 := xr.frozen 3
        have g4 := xr.frozen 4
        have g5 := xr.frozen 5
        have AZ := hide (AF.out.store6 3 rfl (.slice none 0 0) (.slice none 0 0) (.slice none 0 0) (.slice none 0 0) (.int .i64 0) (.int .i64 0))
        clear xr
        go_wp2
        exact bodyPost_ret (res_sc2 rfl _ _ (w.heap.size + 1) _ _ _ _ _ _ (0, 0) rfl (AZ.out.atBox 3 rfl)) rfl ⟨_, _, _, _, rfl, SrbV.nil _ _ _ AZ.out.below.size, AZ.out.below⟩
      | true =>
        obtain ⟨q1, q2, q3⟩ := XE.out rfl
        subst q1 q2 q3
        clear XE GL
        obtain ⟨s0, s1, s2⟩ := X9.out.c3
        have xr := AF.out.atBox 1 rfl
        obtain ⟨x0, x1, x2, x3, x4, x5⟩ := xr.c6
        have f0 := xr.frozen 0
        have f1 := xr.frozen 1
        have f2 := xr.frozen 2
        have A6 := hide (AF.out.lay3S 1 rfl (.slice m1 P.length n1) (.slice m2 HW.length n2) (.slice m3 B.length n3))
        clear xr AF X9
        go_upto_region 9 with fail
        clear s0 s1 s2 x0 x1 x2 x3 x4 x5 f0 f1 f2
        generalize ((W5.setCell ⟨g8, 0, none⟩ (.slice m1 P.length n1)).setCell ⟨g8, 1, none⟩ (.slice m2 HW.length n2)).setCell ⟨g8, 2, none⟩ (.slice m3 B.length n3) = W6 at *
        obtain ⟨lo, hi, d3, lw, hw, put⟩ := A6.out.open 0 rfl
        have DD : Hid (DskV W6 lo hi (.slice m1 P.length n1) (.slice m2 HW.length n2) (.slice m3 B.length n3) P HW B) := d3
        have HV := hide hw
        have PUT := hide put
        clear d3 lw hw put
        obtain ⟨x0, x1, x2, x3, x4, x5⟩ := (A6.out.atBox 1 rfl).c6
        go_wp2_with fail
        refine (syncDisk_calls (.slice m1 P.length n1) (.slice m2 HW.length n2) (.slice m3 B.length n3) P HW B lo hi P.length _ DD.out HV.out rfl LH.out L3.out ⟨L0, L1⟩).mono ?_
        rintro x w7 ⟨rfl, d7, c7⟩
        have A7 := hide (PUT.out w7 (TDsk (.slice m1 P.length n1) (.slice m2 HW.length n2) (.slice m3 B.length n3) (crP P HW (hpl HW P.length)) (crH HW) B) (TDsk.st _ _ _ _ _ _) d7 c7)
        clear d7 c7 A6 PUT DD HV x0 x1 x2 x3 x4 x5
        obtain ⟨x0, x1, x2, x3, x4, x5⟩ := (A7.out.atBox 1 rfl).c6
        have xr := A7.out.atBox 3 rfl
        obtain ⟨d0, d1, d2, d3, d4, d5⟩ := xr.c6
        have g0 := xr.frozen 0
        have g1 := xr.frozen 1
        have g2 := xr.frozen 2
        have g3 := xr.frozen 3
        have g4 := xr.frozen 4
        have g5 := xr.frozen 5
        have AZ := hide (A7.out.store6 3 rfl (.slice m1 P.length n1) (.slice m2 HW.length n2) (.slice m3 B.length n3) (.slice (some ⟨ge, 0, none⟩) es.length k4) (.int .i64 cu) (.int .i64 me))
        clear xr A7
        go_wp2
        exact bodyPost_ret (res_sc2 rfl _ _ (w.heap.size + 1) _ _ _ _ _ _ (0, 0) rfl (AZ.out.atBox 3 rfl)) rfl ⟨_, _, _, _, rfl, AZ.out.srbOf 0 2 (by omega) (p2 := .slice m1 P.length n1) (h2 := .slice m2 HW.length n2) (b2 := .slice m3 B.length n3) (P2 := crP P HW (hpl HW P.length)) (H2 := crH HW) (B2 := B) (p := .slice a1 P.length k1) (h := .slice a2 H.length k2) (b := .slice a3 B.length k3) (e := .slice (some ⟨ge, 0, none⟩) es.length k4) (P := P) (H := H) (B := B) (es := RE) rfl rfl, AZ.out.below⟩
    · dsimp only [List.getElem_toArray, List.getElem_cons_zero, List.getElem_cons_succ]
      go_simp
      have AX5 := hide (AX0.out.box #[.slice none 0 0, .slice none 0 0, .slice none 0 0] 26)
      have BX5 := hide (BX0.out.trans ((below_box _ (.cells #[.slice none 0 0, .slice none 0 0, .slice none 0 0] 26)).mono BX0.out.size))
      have GL := hide BX0.out.size
      clear hHeld AX0 BX0
      obtain ⟨g9, hg9⟩ : ∃ g9 : Nat, g9 = u0.heap.size := ⟨_, rfl⟩
      rw [← hg9] at AX5 GL
      rw [← hg9]
      clear hg9
      generalize u0.alloc (.cells #[.slice none 0 0, .slice none 0 0, .slice none 0 0] 26) = u4 at *
      refine hK.out _ _ (F.out _ BX5.out) (fun hHeld => ?_)
      clear hK KK
      try simp only [Act.put, List.getElem_toArray, List.getElem_cons_zero, List.getElem_cons_succ, List.setIfInBounds_toArray, List.set_cons_zero, List.set_cons_succ]
      refine wpAnyH_ready (rs := [10]) (by kernel_rfl) (by simp) ?_
      refine (AllReadyH.cons rfl (fun KK hK => ?_) AllReadyH.nil)
      dsimp only [List.getElem_toArray, List.getElem_cons_zero, List.getElem_cons_succ]
      go_simp
      refine (WS.out _ (Gf.Tab.below TT.out AX5.out.below) (D.out.below AX5.out.below).rp (D.out.below AX5.out.below).rh (D.out.below AX5.out.below).rb).mono ?_
      rintro e' w4 ⟨p2, h2, b2, rfl, d2, q2⟩
      obtain ⟨m1, n1, m2, n2, m3, n3, rfl, rfl, rfl⟩ := d2.sl
      have AX6 := hide (AX5.out.add q2 (TDsk.st _ _ _ _ _ _) d2)
      have BX6 := hide (BX5.out.trans (q2.mono BX5.out.size))
      clear d2 q2 hHeld AX5 BX5
      refine hK.out _ _ (F.out _ BX6.out) (fun hHeld => ?_)
      clear hK KK
      try simp only [Act.put, List.getElem_toArray, List.getElem_cons_zero, List.getElem_cons_succ, List.setIfInBounds_toArray, List.set_cons_zero, List.set_cons_succ]
      refine wpAnyH_take (i := 11) (v := ?v13) rfl (by kernel_rfl) (by kernel_rfl) (by kernel_rfl) (fun _ _ _ h => h) (Or.inl ⟨by rfl, ?hy13⟩) (by assumption) ?rest13
      case hy13 => (intro w' hSw; dsimp only [List.getElem_toArray, List.getElem_cons_zero, List.getElem_cons_succ] at hSw ⊢; go_simp; try (with_reducible rfl))
      try simp only [Act.put, List.getElem_toArray, List.getElem_cons_zero, List.getElem_cons_succ, List.setIfInBounds_toArray, List.set_cons_zero, List.set_cons_succ]
      refine wpAnyH_take (i := 12) (v := ?v14) rfl (by kernel_rfl) (by kernel_rfl) (by kernel_rfl) (fun _ _ _ h => h) (Or.inl ⟨by rfl, ?hy14⟩) (by assumption) ?rest14
      case hy14 => (intro w' hSw; dsimp only [List.getElem_toArray, List.getElem_cons_zero, List.getElem_cons_succ] at hSw ⊢; go_simp; try (with_reducible rfl))
      try simp only [Act.put, List.getElem_toArray, List.getElem_cons_zero, List.getElem_cons_succ, List.setIfInBounds_toArray, List.set_cons_zero, List.set_cons_succ]
      refine wpAnyH_take (i := 13) (v := ?v15) rfl (by kernel_rfl) (by kernel_rfl) (by kernel_rfl) (fun _ _ _ h => h) (Or.inl ⟨by rfl, ?hy15⟩) (by assumption) ?rest15
      case hy15 => (intro w' hSw; dsimp only [List.getElem_toArray, List.getElem_cons_zero, List.getElem_cons_succ] at hSw ⊢; go_simp; try (with_reducible rfl))
      try simp only [Act.put, List.getElem_toArray, List.getElem_cons_zero, List.getElem_cons_succ, List.setIfInBounds_toArray, List.set_cons_zero, List.set_cons_succ]
      refine wpAnyH_ready (rs := [15]) (by kernel_rfl) (by simp) ?_
      refine (AllReadyH.cons rfl (fun KK hK => ?_) AllReadyH.nil)
      obtain ⟨z0, z1, z2⟩ := (AX6.out.atBox 1 rfl).c3
      have y0 := (AX6.out.atBox 1 rfl).frozen 0
      have y1 := (AX6.out.atBox 1 rfl).frozen 1
      have y2 := (AX6.out.atBox 1 rfl).frozen 2
      dsimp only [List.getElem_toArray, List.getElem_cons_zero, List.getElem_cons_succ]
      go_simp
      clear z0 z1 z2 y0 y1 y2
      have AX7 := hide (AX6.out.store3 1 rfl (.slice m1 XP.length n1) (.slice m2 XH.length n2) (.slice m3 XB.length n3))
      have BX7 := hide (below_store3 BX6.out g9 GL.out (Nat.le_refl _) (.slice m1 XP.length n1) (.slice m2 XH.length n2) (.slice m3 XB.length n3))
      clear hHeld AX6 BX6
      refine hK.out _ _ (F.out _ BX7.out) (fun hHeld => ?_)
      clear hK KK
      try simp only [Act.put, List.getElem_toArray, List.getElem_cons_zero, List.getElem_cons_succ, List.setIfInBounds_toArray, List.set_cons_zero, List.set_cons_succ]
      refine wpAnyH_ready (rs := [16]) (by kernel_rfl) (by simp) ?_
      refine AllReadyH.cons rfl (fun KK hK => ?_) AllReadyH.nil
      dsimp only [List.getElem_toArray, List.getElem_cons_zero, List.getElem_cons_succ]
      go_simp
      refine hK.out _ _ (F.out _ BX7.out) (fun hHeld => ?_)
      clear hK KK
      try simp only [Act.put, List.getElem_toArray, List.getElem_cons_zero, List.getElem_cons_succ, List.setIfInBounds_toArray, List.set_cons_zero, List.set_cons_succ]
      refine wpAnyH_done (by kernel_rfl) ?_ _
      refine NoPanic.normal ?_
      clear hHeld
      have X9 := hide (AX7.out.atBox 1 rfl)
      have AF := hide (AX7.out.drop1)
      clear AX7 BX7
      generalize (((w4.setCell ⟨g9, 0, none⟩ (.slice m1 XP.length n1)).setCell ⟨g9, 1, none⟩ (.slice m2 XH.length n2)).setCell ⟨g9, 2, none⟩ (.slice m3 XB.length n3)) = W5 at *
      cases ok with
      | false =>
        clear X9 GL
        have xr := AF.out.atBox 3 rfl
        obtain ⟨d0, d1, d2, d3, d4, d5⟩ := xr.c6
        have g0 := xr.frozen 0
        have g1 := xr.frozen 1
        have g2 := xr.frozen 2
        have g3 := xr.frozen 3
        have g4 := xr.frozen 4
        have g5 := xr.frozen 5
        have AZ := hide (AF.out.store6 3 rfl (.slice none 0 0) (.slice none 0 0) (.slice none 0 0) (.slice none 0 0) (.int .i64 0) (.int .i64 0))
        clear xr
        go_wp2
        exact bodyPost_ret (res_sc2 rfl _ _ (w.heap.size + 1) _ _ _ _ _ _ (0, 0) rfl (AZ.out.atBox 3 rfl)) rfl ⟨_, _, _, _, rfl, SrbV.nil _ _ _ AZ.out.below.size, AZ.out.below⟩
      | true =>
        obtain ⟨q1, q2, q3⟩ := XE.out rfl
        subst q1 q2 q3
        clear XE GL
        obtain ⟨s0, s1, s2⟩ := X9.out.c3
        have xr := AF.out.atBox 1 rfl
        obtain ⟨x0, x1, x2, x3, x4, x5⟩ := xr.c6
        have f0 := xr.frozen 0
        have f1 := xr.frozen 1
        have f2 := xr.frozen 2
        have A6 := hide (AF.out.lay3S 1 rfl (.slice m1 P.length n1) (.slice m2 HW.length n2) (.slice m3 B.length n3))
        clear xr AF X9
        go_upto_region 9 with fail
        clear s0 s1 s2 x0 x1 x2 x3 x4 x5 f0 f1 f2
        generalize ((W5.setCell ⟨g8, 0, none⟩ (.slice m1 P.length n1)).setCell ⟨g8, 1, none⟩ (.slice m2 HW.length n2)).setCell ⟨g8, 2, none⟩ (.slice m3 B.length n3) = W6 at *
        obtain ⟨lo, hi, d3, lw, hw, put⟩ := A6.out.open 0 rfl
        have DD : Hid (DskV W6 lo hi (.slice m1 P.length n1) (.slice m2 HW.length n2) (.slice m3 B.length n3) P HW B) := d3
        have HV := hide hw
        have PUT := hide put
        clear d3 lw hw put
        obtain ⟨x0, x1, x2, x3, x4, x5⟩ := (A6.out.atBox 1 rfl).c6
        go_wp2_with fail
        refine (syncDisk_calls (.slice m1 P.length n1) (.slice m2 HW.length n2) (.slice m3 B.length n3) P HW B lo hi P.length _ DD.out HV.out rfl LH.out L3.out ⟨L0, L1⟩).mono ?_
        rintro x w7 ⟨rfl, d7, c7⟩
        have A7 := hide (PUT.out w7 (TDsk (.slice m1 P.length n1) (.slice m2 HW.length n2) (.slice m3 B.length n3) (crP P HW (hpl HW P.length)) (crH HW) B) (TDsk.st _ _ _ _ _ _) d7 c7)
        clear d7 c7 A6 PUT DD HV x0 x1 x2 x3 x4 x5
        obtain ⟨x0, x1, x2, x3, x4, x5⟩ := (A7.out.atBox 1 rfl).c6
        have xr := A7.out.atBox 3 rfl
        obtain ⟨d0, d1, d2, d3, d4, d5⟩ := xr.c6
        have g0 := xr.frozen 0
        have g1 := xr.frozen 1
        have g2 := xr.frozen 2
        have g3 := xr.frozen 3
        have g4 := xr.frozen 4
        have g5 := xr.frozen 5
        have AZ := hide (A7.out.store6 3 rfl (.slice m1 P.length n1) (.slice m2 HW.length n2) (.slice m3 B.length n3) (.slice (some ⟨ge, 0, none⟩) es.length k4) (.int .i64 cu) (.int .i64 me))
        clear xr A7
        go_wp2
        exact bodyPost_ret (res_sc2 rfl _ _ (w.heap.size + 1) _ _ _ _ _ _ (0, 0) rfl (AZ.out.atBox 3 rfl)) rfl ⟨_, _, _, _, rfl, AZ.out.srbOf 0 2 (by omega) (p2 := .slice m1 P.length n1) (h2 := .slice m2 HW.length n2) (b2 := .slice m3 B.length n3) (P2 := crP P HW (hpl HW P.length)) (H2 := crH HW) (B2 := B) (p := .slice a1 P.length k1) (h := .slice a2 H.length k2) (b := .slice a3 B.length k3) (e := .slice (some ⟨ge, 0, none⟩) es.length k4) (P := P) (H := H) (B := B) (es := RE) rfl rfl, AZ.out.below⟩
  · dsimp only [List.getElem_toArray, List.getElem_cons_zero, List.getElem_cons_succ]
    go_simp
    have AX8 := hide (AX0.out.box #[.slice none 0 0, .slice none 0 0, .slice none 0 0] 26)
    have BX8 := hide (BX0.out.trans ((below_box _ (.cells #[.slice none 0 0, .slice none 0 0, .slice none 0 0] 26)).mono BX0.out.size))
    have GL := hide BX0.out.size
    clear hHeld AX0 BX0
    obtain ⟨g9, hg9⟩ : ∃ g9 : Nat, g9 = u0.heap.size := ⟨_, rfl⟩
    rw [← hg9] at AX8 GL
    rw [← hg9]
    clear hg9
    generalize u0.alloc (.cells #[.slice none 0 0, .slice none 0 0, .slice none 0 0] 26) = u4 at *
    refine hK.out _ _ (F.out _ BX8.out) (fun hHeld => ?_)
    clear hK KK
    try simp only [Act.put, List.getElem_toArray, List.getElem_cons_zero, List.getElem_cons_succ, List.setIfInBounds_toArray, List.set_cons_zero, List.set_cons_succ]
    refine wpAnyH_ready (rs := [3]) (by kernel_rfl) (by simp) ?_
    refine (AllReadyH.cons rfl (fun KK hK => ?_) AllReadyH.nil)
    dsimp only [List.getElem_toArray, List.getElem_cons_zero, List.getElem_cons_succ]
    go_simp
    refine (FS.out _).mono ?_
    rintro e' uf ⟨rfl, rfl⟩
    clear hHeld
    refine hK.out _ _ (F.out _ BX8.out) (fun hHeld => ?_)
    clear hK KK
    try simp only [Act.put, List.getElem_toArray, List.getElem_cons_zero, List.getElem_cons_succ, List.setIfInBounds_toArray, List.set_cons_zero, List.set_cons_succ]
    refine wpAnyH_ready (rs := [10]) (by kernel_rfl) (by simp) ?_
    refine (AllReadyH.cons rfl (fun KK hK => ?_) AllReadyH.nil)
    dsimp only [List.getElem_toArray, List.getElem_cons_zero, List.getElem_cons_succ]
    go_simp
    refine (WS.out _ (Gf.Tab.below TT.out AX8.out.below) (D.out.below AX8.out.below).rp (D.out.below AX8.out.below).rh (D.out.below AX8.out.below).rb).mono ?_
    rintro e' w4 ⟨p2, h2, b2, rfl, d2, q2⟩
    obtain ⟨m1, n1, m2, n2, m3, n3, rfl, rfl, rfl⟩ := d2.sl
    have AX10 := hide (AX8.out.add q2 (TDsk.st _ _ _ _ _ _) d2)
    have BX10 := hide (BX8.out.trans (q2.mono BX8.out.size))
    clear d2 q2 hHeld AX8 BX8
    refine hK.out _ _ (F.out _ BX10.out) (fun hHeld => ?_)
    clear hK KK
    try simp only [Act.put, List.getElem_toArray, List.getElem_cons_zero, List.getElem_cons_succ, List.setIfInBounds_toArray, List.set_cons_zero, List.set_cons_succ]
    refine wpAnyH_take (i := 11) (v := ?v16) rfl (by kernel_rfl) (by kernel_rfl) (by kernel_rfl) (fun _ _ _ h => h) (Or.inl ⟨by rfl, ?hy16⟩) (by assumption) ?rest16
    case hy16 => (intro w' hSw; dsimp only [List.getElem_toArray, List.getElem_cons_zero, List.getElem_cons_succ] at hSw ⊢; go_simp; try (with_reducible rfl))
    try simp only [Act.put, List.getElem_toArray, List.getElem_cons_zero, List.getElem_cons_succ, List.setIfInBounds_toArray, List.set_cons_zero, List.set_cons_succ]
    refine wpAnyH_take (i := 12) (v := ?v17) rfl (by kernel_rfl) (by kernel_rfl) (by kernel_rfl) (fun _ _ _ h => h) (Or.inl ⟨by rfl, ?hy17⟩) (by assumption) ?rest17
    case hy17 => (intro w' hSw; dsimp only [List.getElem_toArray, List.getElem_cons_zero, List.getElem_cons_succ] at hSw ⊢; go_simp; try (with_reducible rfl))
    try simp only [Act.put, List.getElem_toArray, List.getElem_cons_zero, List.getElem_cons_succ, List.setIfInBounds_toArray, List.set_cons_zero, List.set_cons_succ]
    refine wpAnyH_take (i := 13) (v := ?v18) rfl (by kernel_rfl) (by kernel_rfl) (by kernel_rfl) (fun _ _ _ h => h) (Or.inl ⟨by rfl, ?hy18⟩) (by assumption) ?rest18
    case hy18 => (intro w' hSw; dsimp only [List.getElem_toArray, List.getElem_cons_zero, List.getElem_cons_succ] at hSw ⊢; go_simp; try (with_reducible rfl))
    try simp only [Act.put, List.getElem_toArray, List.getElem_cons_zero, List.getElem_cons_succ, List.setIfInBounds_toArray, List.set_cons_zero, List.set_cons_succ]
    refine wpAnyH_ready (rs := [15]) (by kernel_rfl) (by simp) ?_
    refine (AllReadyH.cons rfl (fun KK hK => ?_) AllReadyH.nil)
    obtain ⟨z0, z1, z2⟩ := (AX10.out.atBox 1 rfl).c3
    have y0 := (AX10.out.atBox 1 rfl).frozen 0
    have y1 := (AX10.out.atBox 1 rfl).frozen 1
    have y2 := (AX10.out.atBox 1 rfl).frozen 2
    dsimp only [List.getElem_toArray, List.getElem_cons_zero, List.getElem_cons_succ]
    go_simp
    clear z0 z1 z2 y0 y1 y2
    have AX11 := hide (AX10.out.store3 1 rfl (.slice m1 XP.length n1) (.slice m2 XH.length n2) (.slice m3 XB.length n3))
    have BX11 := hide (below_store3 BX10.out g9 GL.out (Nat.le_refl _) (.slice m1 XP.length n1) (.slice m2 XH.length n2) (.slice m3 XB.length n3))
    clear hHeld AX10 BX10
    refine hK.out _ _ (F.out _ BX11.out) (fun hHeld => ?_)
    clear hK KK
    try simp only [Act.put, List.getElem_toArray, List.getElem_cons_zero, List.getElem_cons_succ, List.setIfInBounds_toArray, List.set_cons_zero, List.set_cons_succ]
    refine wpAnyH_ready (rs := [16]) (by kernel_rfl) (by simp) ?_
    refine AllReadyH.cons rfl (fun KK hK => ?_) AllReadyH.nil
    dsimp only [List.getElem_toArray, List.getElem_cons_zero, List.getElem_cons_succ]
    go_simp
    refine hK.out _ _ (F.out _ BX11.out) (fun hHeld => ?_)
    clear hK KK
    try simp only [Act.put, List.getElem_toArray, List.getElem_cons_zero, List.getElem_cons_succ, List.setIfInBounds_toArray, List.set_cons_zero, List.set_cons_succ]
    refine wpAnyH_done (by kernel_rfl) ?_ _
    refine NoPanic.normal ?_
    clear hHeld
    have X9 := hide (AX11.out.atBox 1 rfl)
    have AF := hide (AX11.out.drop1)
    clear AX11 BX11
    generalize (((w4.setCell ⟨g9, 0, none⟩ (.slice m1 XP.length n1)).setCell ⟨g9, 1, none⟩ (.slice m2 XH.length n2)).setCell ⟨g9, 2, none⟩ (.slice m3 XB.length n3)) = W5 at *
    cases ok with
    | false =>
      clear X9 GL
      have xr := AF.out.atBox 3 rfl
      obtain ⟨d0, d1, d2, d3, d4, d5⟩ := xr.c6
      have g0 := xr.frozen 0
      have g1 := xr.frozen 1
      have g2 := xr.frozen 2
      have g3 := xr.frozen 3
      have g4 := xr.frozen 4
      have g5 := xr.frozen 5
      have AZ := hide (AF.out.store6 3 rfl (.slice none 0 0) (.slice none 0 0) (.slice none 0 0) (.slice none 0 0) (.int .i64 0) (.int .i64 0))
      clear xr
      go_wp2
      exact bodyPost_ret (res_sc2 rfl _ _ (w.heap.size + 1) _ _ _ _ _ _ (0, 0) rfl (AZ.out.atBox 3 rfl)) rfl ⟨_, _, _, _, rfl, SrbV.nil _ _ _ AZ.out.below.size, AZ.out.below⟩
    | true =>
      obtain ⟨q1, q2, q3⟩ := XE.out rfl
      subst q1 q2 q3
      clear XE GL
      obtain ⟨s0, s1, s2⟩ := X9.out.c3
      have xr := AF.out.atBox 1 rfl
      obtain ⟨x0, x1, x2, x3, x4, x5⟩ := xr.c6
      have f0 := xr.frozen 0
      have f1 := xr.frozen 1
      have f2 := xr.frozen 2
      have A6 := hide (AF.out.lay3S 1 rfl (.slice m1 P.length n1) (.slice m2 HW.length n2) (.slice m3 B.length n3))
      clear xr AF X9
      go_upto_region 9 with fail
      clear s0 s1 s2 x0 x1 x2 x3 x4 x5 f0 f1 f2
      generalize ((W5.setCell ⟨g8, 0, none⟩ (.slice m1 P.length n1)).setCell ⟨g8, 1, none⟩ (.slice m2 HW.length n2)).setCell ⟨g8, 2, none⟩ (.slice m3 B.length n3) = W6 at *
      obtain ⟨lo, hi, d3, lw, hw, put⟩ := A6.out.open 0 rfl
      have DD : Hid (DskV W6 lo hi (.slice m1 P.length n1) (.slice m2 HW.length n2) (.slice m3 B.length n3) P HW B) := d3
      have HV := hide hw
      have PUT := hide put
      clear d3 lw hw put
      obtain ⟨x0, x1, x2, x3, x4, x5⟩ := (A6.out.atBox 1 rfl).c6
      go_wp2_with fail
      refine (syncDisk_calls (.slice m1 P.length n1) (.slice m2 HW.length n2) (.slice m3 B.length n3) P HW B lo hi P.length _ DD.out HV.out rfl LH.out L3.out ⟨L0, L1⟩).mono ?_
      rintro x w7 ⟨rfl, d7, c7⟩
      have A7 := hide (PUT.out w7 (TDsk (.slice m1 P.length n1) (.slice m2 HW.length n2) (.slice m3 B.length n3) (crP P HW (hpl HW P.length)) (crH HW) B) (TDsk.st _ _ _ _ _ _) d7 c7)
      clear d7 c7 A6 PUT DD HV x0 x1 x2 x3 x4 x5
      obtain ⟨x0, x1, x2, x3, x4, x5⟩ := (A7.out.atBox 1 rfl).c6
      have xr := A7.out.atBox 3 rfl
      obtain ⟨d0, d1, d2, d3, d4, d5⟩ := xr.c6
      have g0 := xr.frozen 0
      have g1 := xr.frozen 1
      have g2 := xr.frozen 2
      have g3 := xr.frozen 3
      have g4 := xr.frozen 4
      have g5 := xr.frozen 5
      have AZ := hide (A7.out.store6 3 rfl (.slice m1 P.length n1) (.slice m2 HW.length n2) (.slice m3 B.length n3) (.slice (some ⟨ge, 0, none⟩) es.length k4) (.int .i64 cu) (.int .i64 me))
      clear xr A7
      go_wp2
      exact bodyPost_ret (res_sc2 rfl _ _ (w.heap.size + 1) _ _ _ _ _ _ (0, 0) rfl (AZ.out.atBox 3 rfl)) rfl ⟨_, _, _, _, rfl, AZ.out.srbOf 0 2 (by omega) (p2 := .slice m1 P.length n1) (h2 := .slice m2 HW.length n2) (b2 := .slice m3 B.length n3) (P2 := crP P HW (hpl HW P.length)) (H2 := crH HW) (B2 := B) (p := .slice a1 P.length k1) (h := .slice a2 H.length k2) (b := .slice a3 B.length k3) (e := .slice (some ⟨ge, 0, none⟩) es.length k4) (P := P) (H := H) (B := B) (es := RE) rfl rfl, AZ.out.below⟩
end Go.Proofs.YtbgadbokejaomaaGreatDoor
