/-
  The model's drawing of texts, call by call, over the field's chain (cut out of CurB), and of chapter 8's texts. Each contract says what it asks.
-/
import Derived.Test.YthdbacihhmilbaaGreatDoorMendsB27
import Derived.Test.YthdbacihhmilbaaGreatDoorMendsB40
import Derived.Test.YthdbacihhmilbaaGreatDoorMendsB39
import Derived.Test.YthdbacihhmilbaaGreatDoorMendsB0
set_option maxRecDepth 100000
set_option maxHeartbeats 3200000
set_option linter.unusedVariables false
set_option linter.unusedSimpArgs false
namespace Go.Proofs.YthdbacihhmilbaaGreatDoor
open Go.RowKit
theorem grown_wide {w w' : World} {g : Nat} (h : w.grownBy w' none) : w.grownBy w' (some g) := ⟨h.os, h.tape, h.output, h.size, fun j hj _ => h.block j hj (by simp)⟩
def RdS (w : World) (v : Value) (xs : List ByteArray) : Prop :=
 ∃ b, v = .slice (some ⟨b, 0, none⟩) xs.length xs.length ∧ ∀ i, i < xs.length → w.cell? ⟨b, i, none⟩ = some (.string (xs.getD i ⟨#[]⟩))
theorem rdS_build {w : World} {l : List ByteArray} {g : Nat} (hg : g < w.heap.size) : ∀ w', (w.alloc (.cells (l.map Value.string).toArray 9)).grownBy w' (some g) → RdS w' (.slice (some ⟨w.heap.size, 0, none⟩) l.length l.length) l := by
 intro w' hg'
 refine ⟨w.heap.size, rfl, fun i hi => ?_⟩
 have hb : w'.heap[w.heap.size]? = some (.cells (l.map Value.string).toArray 9 (0, 0)) := by
  rw [hg'.block w.heap.size (by simp) (by simp; omega)]
  exact heap_alloc_new w _
 rw [cell_of_row w' w.heap.size i _ _ _ hb, List.getElem?_toArray, List.getElem?_map, List.getElem?_eq_getElem hi, qg, List.getElem?_eq_getElem hi]
 rfl
theorem of_calls (g : Nat) (cv v : Value) (xs : List ByteArray) (k m : Nat) (w : World) (h : CurS w g cv k) (hk : k ≤ 1000000000) (hr : ∀ w', w.grownBy w' (some g) → RdS w' v xs) (h0 : 1 ≤ xs.length) (hl : xs.length ≤ 200) (hm : ∀ i, i < xs.length → (xs.getD i ⟨#[]⟩).size ≤ m) :
    Calls Tryz.prog 35 #[.pointer (some ⟨g, 0, none⟩), v] w fun e w' => ∃ s : ByteArray, s.size ≤ m ∧ e = .returned (.string s) ∧ CurS w' g cv (k + 2) ∧ w.grownBy w' (some g) := by
 have H := hide h
 have R := hide hr
 obtain ⟨b, rfl, _⟩ := hr w (World.grownBy.refl _ _)
 clear h hr
 go_enter Tryz.func35, Tryz.ntmps35
 go_wp2_with fail
 refine (pick_calls g cv k xs.length _ H.out hk h0 (by omega)).mono ?_
 rintro e w1 ⟨r1, hr1, rfl, hc1, hg1⟩
 have C1 := hide hc1
 have G1 := hide hg1
 obtain ⟨b', hv, hc⟩ := R.out w1 hg1
 obtain rfl : b = b' := by simp at hv; exact hv
 clear hv hc1 hg1 H
 have hcell := hc r1 hr1
 have hsz := hm r1 hr1
 generalize xs.getD r1 ⟨#[]⟩ = z at hcell hsz
 clear hc
 have t : (r1 : Int) < (xs.length : Int) := by omega
 go_wp2
 go_ret
 exact ⟨z, hsz, rfl, C1.out, G1.out⟩
theorem text8_calls (g : Nat) (cv : Value) (k : Nat) (w : World) (h : CurS w g cv k) (hk : k ≤ 900000000) :
    Calls Tryz.prog 61 #[.pointer (some ⟨g, 0, none⟩)] w fun e w' => ∃ s : ByteArray, s.size ≤ 47 ∧ e = .returned (.string s) ∧ CurS w' g cv (k + 2) ∧ w.grownBy w' (some g) := by
 have H := hide h
 have hlt := curS_lt h
 clear h
 go_enter Tryz.func61, Tryz.ntmps61
 go_wp2_with fail
 refine (of_calls g cv _ [⟨#[]⟩, ⟨#[97]⟩, ⟨#[97, 32, 98, 108, 111, 99, 107, 32, 111, 102, 32, 115, 111, 109, 101, 32, 98, 121, 116, 101, 115]⟩, ⟨#[97, 110, 111, 116, 104, 101, 114, 32, 98, 108, 111, 99, 107, 32, 116, 104, 97, 116, 32, 105, 115, 32, 115, 111, 109, 101, 119, 104, 97, 116, 32, 108, 111, 110, 103, 101, 114, 44, 32, 97, 116, 32, 109, 111, 115, 116]⟩, ⟨#[0, 255]⟩] k 47 _ (H.out.alloc _) (by omega) (rdS_build hlt) (by decide) (by decide) (by decide)).mono ?_
 rintro e w1 ⟨t, ht, rfl, hc1, hg1⟩
 have C1 := hide hc1
 have G1 := hide (grown_transA (World.grownBy_alloc _ _ _) hg1)
 clear hc1 hg1 H
 go_wp2
 go_ret
 exact ⟨t, ht, rfl, C1.out, G1.out⟩
def TCur (g : Nat) (cv : Value) (k : Nat) : Tg := fun lo hi w => lo ≤ g ∧ g < hi ∧ ∃ (n : Nat) (s : Int), n ≤ k ∧ w.heap[g]? = some (.cells #[cv, .int .i64 n, .int .u64 s] 65 (0, 0))
theorem TCur.st (g : Nat) (cv : Value) (k : Nat) : (TCur g cv k).st := by
 intro lo hi a b w w' h hc hd
 obtain ⟨h1, h2, n, s, hn, hh⟩ := h
 exact ⟨h1, h2, n, s, hn, by rw [hc.block g (Array.getElem?_eq_some_iff.1 hh).1 (by omega)]; exact hh⟩
theorem chg_grown {g : Nat} {w w' : World} (h : Chg g (g + 1) w w') : w.grownBy w' (some g) := ⟨h.os, h.tape, h.output, h.size, fun j hj hne => h.block j hj (by
 have : j ≠ g := fun e => hne (by rw [e])
 omega)⟩
theorem grown_cur {g : Nat} {w w' : World} (h : w.grownBy w' (some g)) : Chg g (g + 1) w w' := Chg.ofGrown h (fun k e => by
 have e' : g = k := by simpa using e
 omega)
theorem Guest.ofCur {W : World} {g k : Nat} {cv : Value} (h : CurS W g cv k) : Guest g (g + 1) W W (TCur g cv k) [] :=
 (Hand.start W).guest (curS_lt h) (TCur.st _ _ _) ⟨Nat.le_refl _, Nat.lt_succ_self _, h.at_⟩
theorem Guest.cur {W w : World} {g k k0 : Nat} {cv : Value} {L : List Tg} (G : Guest g (g + 1) W w (TCur g cv k) L) (h0 : CurS W g cv k0) : CurS w g cv k :=
 ⟨G.it.2.2, fun w' hw => h0.code w' (grown_transA (chg_grown G.chg) hw)⟩
theorem Guest.grown {W w : World} {g k : Nat} {cv : Value} {L : List Tg} (G : Guest g (g + 1) W w (TCur g cv k) L) : W.grownBy w (some g) := chg_grown G.chg
theorem Guest.drawn {W w w' : World} {g k k' : Nat} {cv : Value} {L : List Tg} (G : Guest g (g + 1) W w (TCur g cv k) L) (hc : CurS w' g cv k') (hg : w.grownBy w' (some g)) : Guest g (g + 1) W w' (TCur g cv k') L :=
 G.low (TCur.st _ _ _) ⟨Nat.le_refl _, Nat.lt_succ_self _, hc.at_⟩ (grown_cur hg)
theorem Guest.add {lo hi : Nat} {W w w' : World} {t u : Tg} {L : List Tg} (G : Guest lo hi W w t L) (hb : Below w.heap.size w w') (hs : u.st) (ho : u w.heap.size w'.heap.size w') : Guest lo hi W w' t (u :: L) :=
 ⟨G.base, (G.step hb).chg, G.st, (G.step hb).it, w.heap.size, w'.heap.size, ⟨hs, ho⟩, hb.size, Nat.le_refl _, HeldG.chg (a := w.heap.size) (b := w.heap.size) (Chg.ofBelow hb) G.held (Nat.le_refl _)⟩
theorem Guest.open {lo hi : Nat} {W w : World} {t u : Tg} {L : List Tg} (G : Guest lo hi W w t L) (i : Nat) (h : L[i]? = some u) :
    ∃ a b, u a b w ∧ W.heap.size ≤ a ∧ b ≤ w.heap.size ∧ ∀ w' u', Tg.st u' → u' a b w' → Chg a b w w' → Guest lo hi W w' t (L.set i u') := by
 obtain ⟨a, b, ok, hb, ht, put⟩ := HeldG.open G.held h
 exact ⟨a, b, ok, hb, ht, fun w' u' hs ok' hc => ⟨G.base, chg_new G.chg hc hb, G.st, G.st _ _ _ _ _ _ G.it hc (.inl (Nat.le_trans G.base hb)), (put w' u' hs ok' hc).up hc.size⟩⟩
theorem drawPiecesFor_calls (cv : Value) (w : World) (h : RdB w cv) :
    Calls Tryz.prog 21 #[cv] w fun e w' => ∃ s : ByteArray, s.size ≤ 48 ∧ e = .returned (.string s) ∧ Below w.heap.size w w' := by
 have C0 := hide (cur_new h)
 obtain ⟨a0, cap0, zs, rfl, _, _, _⟩ := h
 go_enter Tryz.func21, Tryz.ntmps21
 go_wp2_with fail
 refine (one_calls w.heap.size _ 0 12 _ C0.out (by omega) (by omega) (by omega)).mono ?_
 rintro e w1 ⟨b, rfl, hc1, hg1⟩
 have C1 := hide hc1
 have G1 := hide hg1
 clear hc1 hg1 C0
 cases b with
 | true =>
  go_wp2_with fail
  refine (pick_calls w.heap.size _ _ 3 _ C1.out (by omega) (by omega) (by omega)).mono ?_
  rintro e w2 ⟨r2, hr2, rfl, hc2, hg2⟩
  have G2 := hide (grown_transA G1.out hg2)
  clear hc2 hg2 C1 G1
  go_wp2_with (at_make; refine wpList_make_bytes rfl _ _ rfl w2.heap.size _ _ (46 + r2) rfl rfl (by omega) (by omega) (by omega) (Nat.le_refl _) ?_)
  intro w3 hown hgrow
  have hcv := conv_zero hown
  have G3 := hide (cur_below (grown_transA G2.out (grown_wide hgrow)))
  clear hgrow hown G2
  go_wp2
  go_ret
  exact ⟨zst (46 + r2), by rw [zst_size]; omega, rfl, G3.out⟩
 | false =>
  go_wp2_with fail
  refine (text8_calls w.heap.size _ _ _ C1.out (by omega)).mono ?_
  rintro e w2 ⟨s, hs, rfl, hc2, hg2⟩
  have G2 := hide (cur_below (grown_transA G1.out hg2))
  clear hc2 hg2 C1 G1
  go_wp2
  go_ret
  exact ⟨s, by omega, rfl, G2.out⟩
open Gf (ci nat)
def TMatV (vm : Value) (vs : List Value) (m : List (List Int)) : Tg := fun lo hi w => MatV w lo hi vm vs m
theorem TMatV.st (vm : Value) (vs : List Value) (m : List (List Int)) : (TMatV vm vs m).st := fun lo hi a b w w' h hc hd => h.chg hc hd
theorem RdM.first {w : World} {a : Option Addr} {n cap : Nat} {m : List (List Int)} (h : RdM w (.slice a n cap) m) (r : Nat) (hr : r ≤ m.length) : RdM w (.slice a r cap) (m.take r) := by
 obtain ⟨a', cap', e, h1, h2, h3⟩ := h
 simp only [Value.slice.injEq] at e
 obtain ⟨rfl, rfl, rfl⟩ := e
 have el : (m.take r).length = r := by rw [List.length_take]; omega
 refine ⟨a, cap, by rw [el], by rw [el]; omega, h2, ?_⟩
 rcases h3 with rfl | ⟨b, off, rfl, hlt, hc⟩
 ·exact .inl (by simp)
 ·refine .inr ⟨b, off, rfl, hlt, fun i hi => ?_⟩
  rw [el] at hi
  obtain ⟨u, hu, hr'⟩ := hc i (by omega)
  refine ⟨u, hu, ?_⟩
  have e : (m.take r).getD i [] = m.getD i [] := by
   simp only [qg]
   rw [List.getElem?_take, if_pos hi]
  rw [e]
  exact hr'
theorem set_rows {m : List (List Int)} {i : Nat} {r : List Int} (hm : ∀ j, j < 5 → (m.getD j []).length = 16) (hl : m.length = 5) (hr : r.length = 16) : (m.set i r).length = 5 ∧ ∀ j, j < 5 → ((m.set i r).getD j []).length = 16 := by
 refine ⟨by rw [List.length_set]; exact hl, fun j hj => ?_⟩
 by_cases e : i = j
 ·subst e
  rw [qg, List.getElem?_set_self (by omega)]
  exact hr
 ·rw [qg, List.getElem?_set_ne e, ← qg]
  exact hm j hj
theorem drawTextFrom_calls (cv : Value) (w : World) (h : RdB w cv) :
    Calls Tryz.prog 26 #[cv] w fun e w' => ∃ v m, e = .returned v ∧ RdM w' v m ∧ m.length ≤ 5 ∧ (∀ i, i < m.length → (m.getD i []).length = 16) ∧ Below w.heap.size w w' := by
 have C0 := hide (cur_new h)
 obtain ⟨a0, cap0, zs, rfl, _, _, _⟩ := h
 have BW := hide (below_box w (.cells #[.slice a0 zs.length cap0, .int .i64 0, .int .u64 0] 65))
 go_enter Tryz.func26, Tryz.ntmps26
 go_wp2_with fail
 have G0 := hide (Guest.ofCur C0.out)
 generalize hW0 : w.alloc (.cells #[.slice a0 zs.length cap0, .int .i64 0, .int .u64 0] 65) = W0 at *
 clear hW0
 refine (text8_calls w.heap.size _ _ _ C0.out (by omega)).mono ?_
 rintro e w1 ⟨s, hs, rfl, hc1, hg1⟩
 have G1 := hide (G0.out.drawn hc1 hg1)
 clear hc1 hg1 G0
 have ep : pfR s = (mulM (codeM 3 2) (datM s), true) := if_pos hs
 have CP := hide (fun W => sPiecesFor_calls s W (by unfold maxLen; omega))
 rw [ep] at CP
 have R16 := hide (tf_r16 (pf_back hs).1).1
 generalize mulM (codeM 3 2) (datM s) = M at *
 clear ep
 go_wp2_with fail
 refine (CP.out _).mono ?_
 rintro e w2 ⟨vm, rfl, mt, q⟩
 obtain ⟨vs, mv⟩ := mt
 have G2 := hide (G1.out.add q (TMatV.st vm vs M) mv)
 obtain ⟨gm, cm, hvm, _, _, hcm, _⟩ := mv.open (by rw [R16.out.len]; omega)
 rw [R16.out.len] at hvm hcm
 have RL := hide (fun i hi => (R16.out.row i hi).1)
 have ML := hide R16.out.len
 subst hvm
 clear q mv G1 CP
 go_wp2_with fail
 refine (one_calls w.heap.size _ 2 4 _ (G2.out.cur C0.out) (by omega) (by omega) (by omega)).mono ?_
 rintro e w3 ⟨b, rfl, hc1, hg1⟩
 have G3 := hide (G2.out.drawn hc1 hg1)
 clear hc1 hg1 G2
 cases b with
 | false =>
  have KL := hide (ML.out)
  have KR := hide (RL.out)
  go_wp2_with fail
  refine (one_calls w.heap.size _ 4 20 _ (G3.out.cur C0.out) (by omega) (by omega) (by omega)).mono ?_
  rintro e x1 ⟨bb, rfl, hc1, hg1⟩
  have T1 := hide (G3.out.drawn hc1 hg1)
  clear hc1 hg1 G3
  cases bb with
  | false =>
   obtain ⟨y1, y2, mm⟩ := T1.out.get 0 rfl
   have RD := hide (MatV.rd mm)
   clear mm y1 y2
   have BB := hide (BW.out.grown T1.out.grown BW.out.size (fun k hk => by simp at hk; omega))
   go_wp2
   go_ret
   exact ⟨_, _, rfl, RD.out, by rw [KL.out]; omega, fun i hi => KR.out i (by rw [KL.out] at hi; exact hi), BB.out⟩
  | true =>
   go_wp2_with fail
   refine (pick_calls w.heap.size _ (4 + 2) 5 _ (T1.out.cur C0.out) (by omega) (by omega) (by omega)).mono ?_
   rintro e x2 ⟨r, hr, rfl, hc1, hg1⟩
   have T2 := hide (T1.out.drawn hc1 hg1)
   clear hc1 hg1 T1
   obtain ⟨y1, y2, mm⟩ := T2.out.get 0 rfl
   have RD := hide (RdM.first (MatV.rd mm) r (by rw [KL.out]; omega))
   clear mm y1 y2
   have BB := hide (BW.out.grown T2.out.grown BW.out.size (fun k hk => by simp at hk; omega))
   have hrc : (r : Int) ≤ (cm : Int) := by omega
   go_wp2
   go_ret
   exact ⟨_, _, rfl, RD.out, by rw [List.length_take, KL.out]; omega, fun i hi => by
    rw [List.length_take, KL.out] at hi
    have e : (M.take r).getD i [] = M.getD i [] := by
     simp only [qg]
     rw [List.getElem?_take, if_pos (by omega)]
    rw [e]
    exact KR.out i (by omega), BB.out⟩
 | true =>
  go_wp2
  refine wp_region_noPanic ?_
  refine wp_region_held_drew (S := fun _ => True) (by kernel_rfl) (trivial) (fun hHeld => ?_)
  have G4 := hide (G3.out.step (Below.refl _ _).drew)
  clear G3
  generalize w3.drew = V0 at *
  refine qt 0 ?v1 rfl (by kernel_rfl) (by kernel_rfl) (by kernel_rfl) (by rfl) ?hy1 (by assumption) (fun _ _ _ h => h) ?rest1
  case hy1 => intro _ s; dsimp only [qa,qb,qc] at s ⊢; go_simp; try with_reducible rfl
  try simp only [Act.put,qa,qb,qc,qd,qe,qf]
  refine qt 1 ?v2 rfl (by kernel_rfl) (by kernel_rfl) (by kernel_rfl) (by rfl) ?hy2 (by assumption) (fun _ _ _ h => h) ?rest2
  case hy2 => intro _ s; dsimp only [qa,qb,qc] at s ⊢; go_simp; try with_reducible rfl
  try simp only [Act.put,qa,qb,qc,qd,qe,qf]
  refine qt 2 ?v3 rfl (by kernel_rfl) (by kernel_rfl) (by kernel_rfl) (by rfl) ?hy3 (by assumption) (fun _ _ _ h => h) ?rest3
  case hy3 => intro _ s; dsimp only [qa,qb,qc] at s ⊢; go_simp; try with_reducible rfl
  try simp only [Act.put,qa,qb,qc,qd,qe,qf]
  refine qt 3 ?v4 rfl (by kernel_rfl) (by kernel_rfl) (by kernel_rfl) (by rfl) ?hy4 (by assumption) (fun _ _ _ h => h) ?rest4
  case hy4 => intro _ s; dsimp only [qa,qb,qc] at s ⊢; go_simp; try with_reducible rfl
  try simp only [Act.put,qa,qb,qc,qd,qe,qf]
  refine qt 7 ?v5 rfl (by kernel_rfl) (by kernel_rfl) (by kernel_rfl) (by rfl) ?hy5 (by assumption) (fun _ _ _ h => h) ?rest5
  case hy5 => intro _ s; dsimp only [qa,qb,qc] at s ⊢; go_simp; try with_reducible rfl
  try simp only [Act.put,qa,qb,qc,qd,qe,qf]
  refine qt 11 ?v6 rfl (by kernel_rfl) (by kernel_rfl) (by kernel_rfl) (by rfl) ?hy6 (by assumption) (fun _ _ _ h => h) ?rest6
  case hy6 => intro _ s; dsimp only [qa,qb,qc] at s ⊢; go_simp; try with_reducible rfl
  try simp only [Act.put,qa,qb,qc,qd,qe,qf]
  refine qs 4 (by kernel_rfl) rfl (fun K hK => ?_)
  dsimp only [qa,qb,qc]
  go_simp
  refine (pick_calls w.heap.size _ 4 5 _ (G4.out.cur C0.out) (by omega) (by omega) (by omega)).mono ?_
  rintro e' V1 ⟨r1, hr1, rfl, hc1, hg1⟩
  have G5 := hide (G4.out.drawn hc1 hg1)
  clear hc1 hg1 hHeld G4
  refine hK.out _ _ (trivial) (fun hHeld => ?_)
  clear hK K
  try simp only [Act.put,qa,qb,qc,qd,qe,qf]
  clear hHeld
  obtain ⟨y1, y2, mm⟩ := G5.out.get 0 rfl
  have hrow := MatV.row mm r1 (by rw [ML.out]; exact hr1)
  have h16 := RL.out r1 hr1
  obtain ⟨gr, cr, hu, hurest⟩ := Gf.Own.open hrow (by rw [h16]; omega)
  rw [h16] at hu
  have MC : Hid (∀ w' k, Guest w.heap.size (w.heap.size + 1) W0 w' (TCur w.heap.size (.slice a0 zs.length cap0) k) [TMatV (.slice (some ⟨gm, 0, none⟩) 5 cm) vs M] → w'.cell? ⟨gm, r1, none⟩ = some (.slice (some ⟨gr, 0, none⟩) 16 cr) ∧ ∀ j, j < 16 → w'.cell? ⟨gr, j, none⟩ = some (.int .i64 ((M.getD r1 []).getD j 0))) := fun w' k g => by
   obtain ⟨z1, z2, m2⟩ := g.get 0 rfl
   have c := MatV.cell m2 r1 (by rw [ML.out]; exact hr1)
   have o := MatV.row m2 r1 (by rw [ML.out]; exact hr1)
   rw [hu] at c o
   obtain ⟨g', c', e', _, _, hc⟩ := Gf.Own.open o (by rw [h16]; omega)
   simp only [Value.slice.injEq, Option.some.injEq, Addr.mk.injEq] at e'
   obtain ⟨⟨rfl, _⟩, _, _⟩ := e'
   exact ⟨c, fun j hj => hc j (by rw [h16]; exact hj)⟩
  have ST : Hid (∀ w' k j y, j < 16 → Guest w.heap.size (w.heap.size + 1) W0 w' (TCur w.heap.size (.slice a0 zs.length cap0) k) [TMatV (.slice (some ⟨gm, 0, none⟩) 5 cm) vs M] → Guest w.heap.size (w.heap.size + 1) W0 (w'.setCell ⟨gr, j, none⟩ (.int .i64 y)) (TCur w.heap.size (.slice a0 zs.length cap0) k) [TMatV (.slice (some ⟨gm, 0, none⟩) 5 cm) vs (M.set r1 ((M.getD r1 []).set j y))] ∧ w'.frozen? ⟨gr, j, none⟩ = false) := fun w' k j y hj g => by
   obtain ⟨z1, z2, m2, hb, ht, put⟩ := g.open 0 rfl
   have m3 : MatV w' z1 z2 (.slice (some ⟨gm, 0, none⟩) 5 cm) vs M := m2
   have o := m3.row r1 (by rw [ML.out]; exact hr1)
   have tp := m3.tops r1
   have hlt5 : r1 < M.length := by rw [ML.out]; exact hr1
   have o' : w'.ownsRow z1 3 1 (.slice (some ⟨gr, 0, none⟩) 16 cr) 16 ((M.getD r1 []).map (Value.int .i64)) := by
    rw [hu] at o
    have o2 : w'.ownsRow z1 3 1 (.slice (some ⟨gr, 0, none⟩) 16 cr) (M.getD r1 []).length ((M.getD r1 []).map (Value.int .i64)) := o
    rw [h16] at o2
    exact o2
   have st := o'.stored j (.int .i64 y)
   have e : (((M.getD r1 []).map (Value.int .i64)).set j (.int .i64 y)) = ((M.getD r1 []).set j y).map (Value.int .i64) := by rw [List.map_set]
   rw [e] at st
   have hlo := row_low o' gr rfl
   have hhi : gr < z2 := tp gr hlt5 (by rw [hu]; rfl)
   refine ⟨put _ (TMatV (.slice (some ⟨gm, 0, none⟩) 5 cm) vs (M.set r1 ((M.getD r1 []).set j y))) (TMatV.st _ _ _) (m3.write r1 hlt5 _ ?_ ?_) (Chg.ofSetCell w' gr j _ hlo hhi), o'.frozenAt j⟩
   ·rw [hu]
    show World.ownsRow _ _ _ _ _ ((M.getD r1 []).set j y).length _
    rw [List.length_set, h16]
    exact st.1
   ·rw [hu]
    exact st.2
  have MC2 : Hid (∀ w' k X, X.length = 5 → Guest w.heap.size (w.heap.size + 1) W0 w' (TCur w.heap.size (.slice a0 zs.length cap0) k) [TMatV (.slice (some ⟨gm, 0, none⟩) 5 cm) vs X] → w'.cell? ⟨gm, r1, none⟩ = some (.slice (some ⟨gr, 0, none⟩) 16 cr)) := fun w' k X hX g => by
   obtain ⟨z1, z2, m2⟩ := g.get 0 rfl
   have c := MatV.cell m2 r1 (by rw [hX]; exact hr1)
   rw [hu] at c
   exact c
  clear hurest mm hrow hu
  clear y1 y2
  have H16 := hide h16
  clear h16
  refine wpAnyH_imp (S' := fun w' => w'.cell? ⟨gm, r1, none⟩ = some (.slice (some ⟨gr, 0, none⟩) 16 cr)) (fun _ _ => trivial) _ _ _ _ ?_
  have hHeld : (fun w' => w'.cell? ⟨gm, r1, none⟩ = some (.slice (some ⟨gr, 0, none⟩) 16 cr)) V1 := (MC.out _ _ G5.out).1
  have hr1i : (r1 : Int) < 5 := by omega
  refine qt 5 ?v7 rfl (by kernel_rfl) (by kernel_rfl) (by kernel_rfl) (by rfl) ?hy7 (by assumption) (fun _ _ _ h => h) ?rest7
  case hy7 => intro _ s; dsimp only [qa,qb,qc] at s ⊢; go_simp; try with_reducible rfl
  try simp only [Act.put,qa,qb,qc,qd,qe,qf]
  refine qt 6 ?v8 rfl (by kernel_rfl) (by kernel_rfl) (by kernel_rfl) (by rfl) ?hy8 (by assumption) (fun _ _ _ h => h) ?rest8
  case hy8 => intro _ s; dsimp only [qa,qb,qc] at s ⊢; go_simp; try with_reducible rfl
  try simp only [Act.put,qa,qb,qc,qd,qe,qf]
  refine qs 8 (by kernel_rfl) rfl (fun K hK => ?_)
  dsimp only [qa,qb,qc]
  go_simp
  refine (pick_calls w.heap.size _ 6 3 _ (G5.out.cur C0.out) (by omega) (by omega) (by omega)).mono ?_
  rintro e' V2 ⟨r2, hr2, rfl, hc1, hg1⟩
  have G6 := hide (G5.out.drawn hc1 hg1)
  clear hc1 hg1 hHeld G5
  refine hK.out _ _ ((MC.out _ _ G6.out).1) (fun hHeld => ?_)
  clear hK K
  try simp only [Act.put,qa,qb,qc,qd,qe,qf]
  have hr2i : (r2 : Int) < 16 := by omega
  refine qt 9 ?v9 rfl (by kernel_rfl) (by kernel_rfl) (by kernel_rfl) (by rfl) ?hy9 (by assumption) (fun _ _ _ h => h) ?rest9
  case hy9 => intro _ s; dsimp only [qa,qb,qc] at s ⊢; go_simp; try with_reducible rfl
  try simp only [Act.put,qa,qb,qc,qd,qe,qf]
  refine wpAnyH_ready (rs := [10, 12]) (by kernel_rfl) (by simp) ?_
  refine AllReadyH.cons rfl (fun K hK => ?_) (AllReadyH.cons rfl (fun K hK => ?_) AllReadyH.nil)
  ·have cx := (MC.out _ _ G6.out).2 r2 (by omega)
   generalize (M.getD r1 []).getD r2 0 = x at cx
   dsimp only [qa,qb,qc]
   go_simp
   clear cx
   refine hK.out _ _ ((MC.out _ _ G6.out).1) (fun hHeld => ?_)
   clear hK K
   try simp only [Act.put,qa,qb,qc,qd,qe,qf]
   refine qs 12 (by kernel_rfl) rfl (fun K hK => ?_)
   dsimp only [qa,qb,qc]
   go_simp
   refine (pick_calls w.heap.size _ 8 4 _ (G6.out.cur C0.out) (by omega) (by omega) (by omega)).mono ?_
   rintro e' V3 ⟨r3, hr3, rfl, hc1, hg1⟩
   have G7 := hide (G6.out.drawn hc1 hg1)
   clear hc1 hg1 hHeld G6
   refine hK.out _ _ ((MC.out _ _ G7.out).1) (fun hHeld => ?_)
   clear hK K
   try simp only [Act.put,qa,qb,qc,qd,qe,qf]
   refine qt 13 ?v10 rfl (by kernel_rfl) (by kernel_rfl) (by kernel_rfl) (by rfl) ?hy10 (by assumption) (fun _ _ _ h => h) ?rest10
   case hy10 => intro _ s; dsimp only [qa,qb,qc] at s ⊢; go_simp; try with_reducible rfl
   try simp only [Act.put,qa,qb,qc,qd,qe,qf]
   refine qt 14 ?v11 rfl (by kernel_rfl) (by kernel_rfl) (by kernel_rfl) (by rfl) ?hy11 (by assumption) (fun _ _ _ h => h) ?rest11
   case hy11 => intro _ s; dsimp only [qa,qb,qc] at s ⊢; go_simp; try with_reducible rfl
   try simp only [Act.put,qa,qb,qc,qd,qe,qf]
   refine qs 15 (by kernel_rfl) rfl (fun K hK => ?_)
   have fz := (ST.out _ _ r2 0 (by omega) G7.out).2
   have cx := (MC.out _ _ G7.out).2 r2 (by omega)
   dsimp only [qa,qb,qc]
   go_simp
   clear cx fz
   have GG := hide (fun y => (ST.out _ _ r2 y (by omega) G7.out).1)
   clear hHeld
   refine hK.out _ _ (MC2.out _ _ _ (by rw [List.length_set]; exact ML.out) (GG.out _)) (fun hHeld => ?_)
   clear hK K
   try simp only [Act.put,qa,qb,qc,qd,qe,qf]
   refine wpAnyH_done (by kernel_rfl) ?_ _
   refine NoPanic.normal ?_
   have SR := set_rows (i := r1) (r := (M.getD r1 []).set r2 (bits BinOp.xor IntKind.i64 x (r3 : Int))) RL.out ML.out (by rw [List.length_set]; exact H16.out)
   have SR1 := hide SR.1
   have SR2 := hide SR.2
   have G8 := hide (GG.out (bits BinOp.xor IntKind.i64 x (r3 : Int)))
   clear SR hHeld GG MC ST MC2
   generalize M.set r1 ((M.getD r1 []).set r2 (bits BinOp.xor IntKind.i64 x (r3 : Int))) = X at *
   generalize V3.setCell ⟨gr, r2, none⟩ (.int .i64 (bits BinOp.xor IntKind.i64 x (r3 : Int))) = V4 at *
   have KL := hide (SR1.out)
   have KR := hide (SR2.out)
   go_wp2_with fail
   refine (one_calls w.heap.size _ (8 + 2) 20 _ (G8.out.cur C0.out) (by omega) (by omega) (by omega)).mono ?_
   rintro e x1 ⟨bb, rfl, hc1, hg1⟩
   have T1 := hide (G8.out.drawn hc1 hg1)
   clear hc1 hg1 G8
   cases bb with
   | false =>
    obtain ⟨y1, y2, mm⟩ := T1.out.get 0 rfl
    have RD := hide (MatV.rd mm)
    clear mm y1 y2
    have BB := hide (BW.out.grown T1.out.grown BW.out.size (fun k hk => by simp at hk; omega))
    go_wp2
    go_ret
    exact ⟨_, _, rfl, RD.out, by rw [KL.out]; omega, fun i hi => KR.out i (by rw [KL.out] at hi; exact hi), BB.out⟩
   | true =>
    go_wp2_with fail
    refine (pick_calls w.heap.size _ ((8 + 2) + 2) 5 _ (T1.out.cur C0.out) (by omega) (by omega) (by omega)).mono ?_
    rintro e x2 ⟨r, hr, rfl, hc1, hg1⟩
    have T2 := hide (T1.out.drawn hc1 hg1)
    clear hc1 hg1 T1
    obtain ⟨y1, y2, mm⟩ := T2.out.get 0 rfl
    have RD := hide (RdM.first (MatV.rd mm) r (by rw [KL.out]; omega))
    clear mm y1 y2
    have BB := hide (BW.out.grown T2.out.grown BW.out.size (fun k hk => by simp at hk; omega))
    have hrc : (r : Int) ≤ (cm : Int) := by omega
    go_wp2
    go_ret
    exact ⟨_, _, rfl, RD.out, by rw [List.length_take, KL.out]; omega, fun i hi => by
     rw [List.length_take, KL.out] at hi
     have e : (X.take r).getD i [] = X.getD i [] := by
      simp only [qg]
      rw [List.getElem?_take, if_pos (by omega)]
     rw [e]
     exact KR.out i (by omega), BB.out⟩
  ·dsimp only [qa,qb,qc]
   go_simp
   refine (pick_calls w.heap.size _ 8 4 _ (G6.out.cur C0.out) (by omega) (by omega) (by omega)).mono ?_
   rintro e' V3 ⟨r3, hr3, rfl, hc1, hg1⟩
   have G7 := hide (G6.out.drawn hc1 hg1)
   clear hc1 hg1 hHeld G6
   refine hK.out _ _ ((MC.out _ _ G7.out).1) (fun hHeld => ?_)
   clear hK K
   try simp only [Act.put,qa,qb,qc,qd,qe,qf]
   refine qs 10 (by kernel_rfl) rfl (fun K hK => ?_)
   have cx := (MC.out _ _ G7.out).2 r2 (by omega)
   generalize (M.getD r1 []).getD r2 0 = x at cx
   dsimp only [qa,qb,qc]
   go_simp
   clear cx
   refine hK.out _ _ ((MC.out _ _ G7.out).1) (fun hHeld => ?_)
   clear hK K
   try simp only [Act.put,qa,qb,qc,qd,qe,qf]
   refine qt 13 ?v12 rfl (by kernel_rfl) (by kernel_rfl) (by kernel_rfl) (by rfl) ?hy12 (by assumption) (fun _ _ _ h => h) ?rest12
   case hy12 => intro _ s; dsimp only [qa,qb,qc] at s ⊢; go_simp; try with_reducible rfl
   try simp only [Act.put,qa,qb,qc,qd,qe,qf]
   refine qt 14 ?v13 rfl (by kernel_rfl) (by kernel_rfl) (by kernel_rfl) (by rfl) ?hy13 (by assumption) (fun _ _ _ h => h) ?rest13
   case hy13 => intro _ s; dsimp only [qa,qb,qc] at s ⊢; go_simp; try with_reducible rfl
   try simp only [Act.put,qa,qb,qc,qd,qe,qf]
   refine qs 15 (by kernel_rfl) rfl (fun K hK => ?_)
   have fz := (ST.out _ _ r2 0 (by omega) G7.out).2
   have cx := (MC.out _ _ G7.out).2 r2 (by omega)
   dsimp only [qa,qb,qc]
   go_simp
   clear cx fz
   have GG := hide (fun y => (ST.out _ _ r2 y (by omega) G7.out).1)
   clear hHeld
   refine hK.out _ _ (MC2.out _ _ _ (by rw [List.length_set]; exact ML.out) (GG.out _)) (fun hHeld => ?_)
   clear hK K
   try simp only [Act.put,qa,qb,qc,qd,qe,qf]
   refine wpAnyH_done (by kernel_rfl) ?_ _
   refine NoPanic.normal ?_
   have SR := set_rows (i := r1) (r := (M.getD r1 []).set r2 (bits BinOp.xor IntKind.i64 x (r3 : Int))) RL.out ML.out (by rw [List.length_set]; exact H16.out)
   have SR1 := hide SR.1
   have SR2 := hide SR.2
   have G8 := hide (GG.out (bits BinOp.xor IntKind.i64 x (r3 : Int)))
   clear SR hHeld GG MC ST MC2
   generalize M.set r1 ((M.getD r1 []).set r2 (bits BinOp.xor IntKind.i64 x (r3 : Int))) = X at *
   generalize V3.setCell ⟨gr, r2, none⟩ (.int .i64 (bits BinOp.xor IntKind.i64 x (r3 : Int))) = V4 at *
   have KL := hide (SR1.out)
   have KR := hide (SR2.out)
   go_wp2_with fail
   refine (one_calls w.heap.size _ (8 + 2) 20 _ (G8.out.cur C0.out) (by omega) (by omega) (by omega)).mono ?_
   rintro e x1 ⟨bb, rfl, hc1, hg1⟩
   have T1 := hide (G8.out.drawn hc1 hg1)
   clear hc1 hg1 G8
   cases bb with
   | false =>
    obtain ⟨y1, y2, mm⟩ := T1.out.get 0 rfl
    have RD := hide (MatV.rd mm)
    clear mm y1 y2
    have BB := hide (BW.out.grown T1.out.grown BW.out.size (fun k hk => by simp at hk; omega))
    go_wp2
    go_ret
    exact ⟨_, _, rfl, RD.out, by rw [KL.out]; omega, fun i hi => KR.out i (by rw [KL.out] at hi; exact hi), BB.out⟩
   | true =>
    go_wp2_with fail
    refine (pick_calls w.heap.size _ ((8 + 2) + 2) 5 _ (T1.out.cur C0.out) (by omega) (by omega) (by omega)).mono ?_
    rintro e x2 ⟨r, hr, rfl, hc1, hg1⟩
    have T2 := hide (T1.out.drawn hc1 hg1)
    clear hc1 hg1 T1
    obtain ⟨y1, y2, mm⟩ := T2.out.get 0 rfl
    have RD := hide (RdM.first (MatV.rd mm) r (by rw [KL.out]; omega))
    clear mm y1 y2
    have BB := hide (BW.out.grown T2.out.grown BW.out.size (fun k hk => by simp at hk; omega))
    have hrc : (r : Int) ≤ (cm : Int) := by omega
    go_wp2
    go_ret
    exact ⟨_, _, rfl, RD.out, by rw [List.length_take, KL.out]; omega, fun i hi => by
     rw [List.length_take, KL.out] at hi
     have e : (X.take r).getD i [] = X.getD i [] := by
      simp only [qg]
      rw [List.getElem?_take, if_pos (by omega)]
     rw [e]
     exact KR.out i (by omega), BB.out⟩
end Go.Proofs.YthdbacihhmilbaaGreatDoor
