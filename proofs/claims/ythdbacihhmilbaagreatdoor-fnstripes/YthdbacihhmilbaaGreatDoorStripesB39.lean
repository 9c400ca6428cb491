/-
  The model's drawing of texts, call by call, over the field's chain (cut out of CurB), and of chapter 8's texts. Each contract says what it asks.
-/
import Derived.Test.YthdbacihhmilbaaGreatDoorStripesB26
import Derived.Test.YthdbacihhmilbaaGreatDoorStripesB38
import Derived.Deep.DeepCutAuto
import Derived.Test.YthdbacihhmilbaaGreatDoorStripesB0
set_option maxRecDepth 100000
set_option maxHeartbeats 3200000
set_option linter.unusedVariables false
set_option linter.unusedSimpArgs false
namespace Go.Proofs.YthdbacihhmilbaaGreatDoor
open Go.RowKit
def RdS (w : World) (v : Value) (xs : List ByteArray) : Prop :=
 ∃ b, v = .slice (some ⟨b, 0, none⟩) xs.length xs.length ∧ ∀ i, i < xs.length → w.cell? ⟨b, i, none⟩ = some (.string (xs.getD i ⟨#[]⟩))
theorem rdS_build {w : World} {l : List ByteArray} {g : Nat} (hg : g < w.heap.size) : ∀ w', (w.alloc (.cells (l.map Value.string).toArray 9)).grownBy w' (some g) → RdS w' (.slice (some ⟨w.heap.size, 0, none⟩) l.length l.length) l := by
 intro w' hg'
 refine ⟨w.heap.size, rfl, fun i hi => ?_⟩
 have hb : w'.heap[w.heap.size]? = some (.cells (l.map Value.string).toArray 9 (0, 0)) := by
  rw [hg'.block w.heap.size (by simp) (by simp; omega)]
  exact heap_alloc_new w _
 rw [cell_of_row w' w.heap.size i _ _ _ hb, List.getElem?_toArray, List.getElem?_map, List.getElem?_eq_getElem hi, qg, List.getElem?_eq_getElem hi]
 rfl
theorem of_calls (g : Nat) (cv v : Value) (xs : List ByteArray) (k m : Nat) (w : World) (h : CurS w g cv k) (hk : k ≤ 1000000000) (hr : ∀ w', w.grownBy w' (some g) → RdS w' v xs) (h0 : 1 ≤ xs.length) (hl : xs.length ≤ 200) (hm : ∀ i, i < xs.length → (xs.getD i ⟨#[]⟩).size ≤ m) :
    Calls Tryz.prog 35 #[.pointer (some ⟨g, 0, none⟩), v] w fun e w' => ∃ s : ByteArray, s.size ≤ m ∧ e = .returned (.string s) ∧ CurS w' g cv (k + 2) ∧ w.grownBy w' (some g) := by
 have H := hide h
 have R := hide hr
 obtain ⟨b, rfl, _⟩ := hr w (World.grownBy.refl _ _)
 clear h hr
 go_enter Tryz.func35, Tryz.ntmps35
 go_wp2_with fail
 refine (pick_calls g cv k xs.length _ H.out hk h0 (by omega)).mono ?_
 rintro e w1 ⟨r1, hr1, rfl, hc1, hg1⟩
 have C1 := hide hc1
 have G1 := hide hg1
 obtain ⟨b', hv, hc⟩ := R.out w1 hg1
 obtain rfl : b = b' := by simp at hv; exact hv
 clear hv hc1 hg1 H
 have hcell := hc r1 hr1
 have hsz := hm r1 hr1
 generalize xs.getD r1 ⟨#[]⟩ = z at hcell hsz
 clear hc
 have t : (r1 : Int) < (xs.length : Int) := by omega
 go_wp2
 go_ret
 exact ⟨z, hsz, rfl, C1.out, G1.out⟩
theorem text8_calls (g : Nat) (cv : Value) (k : Nat) (w : World) (h : CurS w g cv k) (hk : k ≤ 900000000) :
    Calls Tryz.prog 61 #[.pointer (some ⟨g, 0, none⟩)] w fun e w' => ∃ s : ByteArray, s.size ≤ 47 ∧ e = .returned (.string s) ∧ CurS w' g cv (k + 2) ∧ w.grownBy w' (some g) := by
 have H := hide h
 have hlt := curS_lt h
 clear h
 go_enter Tryz.func61, Tryz.ntmps61
 go_wp2_with fail
 refine (of_calls g cv _ [⟨#[]⟩, ⟨#[97]⟩, ⟨#[97, 32, 98, 108, 111, 99, 107, 32, 111, 102, 32, 115, 111, 109, 101, 32, 98, 121, 116, 101, 115]⟩, ⟨#[97, 110, 111, 116, 104, 101, 114, 32, 98, 108, 111, 99, 107, 32, 116, 104, 97, 116, 32, 105, 115, 32, 115, 111, 109, 101, 119, 104, 97, 116, 32, 108, 111, 110, 103, 101, 114, 44, 32, 97, 116, 32, 109, 111, 115, 116]⟩, ⟨#[0, 255]⟩] k 47 _ (H.out.alloc _) (by omega) (rdS_build hlt) (by decide) (by decide) (by decide)).mono ?_
 rintro e w1 ⟨t, ht, rfl, hc1, hg1⟩
 have C1 := hide hc1
 have G1 := hide (grown_transA (World.grownBy_alloc _ _ _) hg1)
 clear hc1 hg1 H
 go_wp2
 go_ret
 exact ⟨t, ht, rfl, C1.out, G1.out⟩
def TCur (g : Nat) (cv : Value) (k : Nat) : Tg := fun lo hi w => lo ≤ g ∧ g < hi ∧ ∃ (n : Nat) (s : Int), n ≤ k ∧ w.heap[g]? = some (.cells #[cv, .int .i64 n, .int .u64 s] 65 (0, 0))
theorem TCur.st (g : Nat) (cv : Value) (k : Nat) : (TCur g cv k).st := by
 intro lo hi a b w w' h hc hd
 obtain ⟨h1, h2, n, s, hn, hh⟩ := h
 exact ⟨h1, h2, n, s, hn, by rw [hc.block g (Array.getElem?_eq_some_iff.1 hh).1 (by omega)]; exact hh⟩
theorem chg_grown {g : Nat} {w w' : World} (h : Chg g (g + 1) w w') : w.grownBy w' (some g) := ⟨h.os, h.tape, h.output, h.size, fun j hj hne => h.block j hj (by
 have : j ≠ g := fun e => hne (by rw [e])
 omega)⟩
theorem grown_cur {g : Nat} {w w' : World} (h : w.grownBy w' (some g)) : Chg g (g + 1) w w' := Chg.ofGrown h (fun k e => by
 have e' : g = k := by simpa using e
 omega)
theorem Guest.ofCur {W : World} {g k : Nat} {cv : Value} (h : CurS W g cv k) : Guest g (g + 1) W W (TCur g cv k) [] :=
 (Hand.start W).guest (curS_lt h) (TCur.st _ _ _) ⟨Nat.le_refl _, Nat.lt_succ_self _, h.at_⟩
theorem Guest.cur {W w : World} {g k k0 : Nat} {cv : Value} {L : List Tg} (G : Guest g (g + 1) W w (TCur g cv k) L) (h0 : CurS W g cv k0) : CurS w g cv k :=
 ⟨G.it.2.2, fun w' hw => h0.code w' (grown_transA (chg_grown G.chg) hw)⟩
theorem Guest.grown {W w : World} {g k : Nat} {cv : Value} {L : List Tg} (G : Guest g (g + 1) W w (TCur g cv k) L) : W.grownBy w (some g) := chg_grown G.chg
theorem Guest.drawn {W w w' : World} {g k k' : Nat} {cv : Value} {L : List Tg} (G : Guest g (g + 1) W w (TCur g cv k) L) (hc : CurS w' g cv k') (hg : w.grownBy w' (some g)) : Guest g (g + 1) W w' (TCur g cv k') L :=
 G.low (TCur.st _ _ _) ⟨Nat.le_refl _, Nat.lt_succ_self _, hc.at_⟩ (grown_cur hg)
theorem Guest.open {lo hi : Nat} {W w : World} {t u : Tg} {L : List Tg} (G : Guest lo hi W w t L) (i : Nat) (h : L[i]? = some u) :
    ∃ a b, u a b w ∧ W.heap.size ≤ a ∧ b ≤ w.heap.size ∧ ∀ w' u', Tg.st u' → u' a b w' → Chg a b w w' → Guest lo hi W w' t (L.set i u') := by
 obtain ⟨a, b, ok, hb, ht, put⟩ := HeldG.open G.held h
 exact ⟨a, b, ok, hb, ht, fun w' u' hs ok' hc => ⟨G.base, chg_new G.chg hc hb, G.st, G.st _ _ _ _ _ _ G.it hc (.inl (Nat.le_trans G.base hb)), (put w' u' hs ok' hc).up hc.size⟩⟩
def StripedOk : Prop := ∀ (g : Nat) (cv : Value) (k : Nat) (w : World), CurS w g cv k → k ≤ 1000 → Calls Tryz.prog 31 #[.pointer (some ⟨g, 0, none⟩)] w fun e w' => ∃ p h b P H B A, e = .returned (.tuple #[.agg #[p, h, b], .int .i64 A]) ∧ DskV w' w.heap.size w'.heap.size p h b P H B ∧ (0 ≤ A ∧ A ≤ 8) ∧ CurS w' g cv (k + 1000) ∧ w.grownBy w' (some g)
theorem Guest.addG {W w w' : World} {g k k' : Nat} {cv : Value} {u : Tg} {L : List Tg} (G : Guest g (g + 1) W w (TCur g cv k) L) (hc : CurS w' g cv k') (hg : w.grownBy w' (some g)) (hs : u.st) (ho : u w.heap.size w'.heap.size w') : Guest g (g + 1) W w' (TCur g cv k') (u :: L) := by
 have G' := G.drawn hc hg
 exact ⟨G'.base, G'.chg, G'.st, G'.it, w.heap.size, w'.heap.size, ⟨hs, ho⟩, hg.size, Nat.le_refl _, HeldG.low (grown_cur hg) G.base G.held⟩
theorem drawReadStripe_of (hStr : StripedOk) (cv : Value) (w : World) (h : RdB w cv) :
    Calls Tryz.prog 13 #[cv] w fun e w' => ∃ p h b P H B A L, e = .returned (.tuple #[.agg #[p, h, b], .int .i64 A, .int .i64 L]) ∧ DskV w' w.heap.size w'.heap.size p h b P H B ∧ (-2 ≤ A ∧ A ≤ 10) ∧ Below w.heap.size w w' := by
 have b0 := below_box w (.cells nil3 26)
 have C0 := cur_new (h.below b0)
 have x0 := BoxAt.new w nil3 26
 obtain ⟨a0, cap0, zs, rfl, _, _, _⟩ := h
 go_enter Tryz.func13, Tryz.ntmps13
 go_wp2_with fail
 have C1 : Hid (CurS ((w.alloc (.cells nil3 26)).alloc (.cells #[.slice a0 zs.length cap0, .int .i64 0, .int .u64 0] 65)) (w.heap.size + 1) (.slice a0 zs.length cap0) 0) := by
  show CurS _ _ _ _
  simpa using C0
 have b1 := below_box (w.alloc (.cells nil3 26)) (.cells #[.slice a0 zs.length cap0, .int .i64 0, .int .u64 0] 65)
 have X1 := hide (x0.below b1)
 have BW := hide (b0.trans (b1.mono b0.size))
 have sz1 : ((w.alloc (.cells nil3 26)).alloc (.cells #[.slice a0 zs.length cap0, .int .i64 0, .int .u64 0] 65)).heap.size = w.heap.size + 2 := by simp
 have SZ := hide sz1
 clear b0 b1 x0 C0 sz1
 have G0 := hide (Guest.ofCur C1.out)
 change Calls _ _ _ ((w.alloc (.cells nil3 26)).alloc (.cells #[.slice a0 zs.length cap0, .int .i64 0, .int .u64 0] 65)) _
 generalize hW : (w.alloc (.cells nil3 26)).alloc (.cells #[.slice a0 zs.length cap0, .int .i64 0, .int .u64 0] 65) = W1 at *
 clear hW
 refine (hStr (w.heap.size + 1) _ 0 W1 C1.out (by omega)).mono ?_
 rintro e w2 ⟨p, h, b, P, H, B, A, rfl, d, hA, hc1, hg1⟩
 obtain ⟨ap, cp, ah, ch, ab, cb, rfl, rfl, rfl⟩ := d.sl
 have G2 := hide ((G0.out.addG hc1 hg1 (TDsk.st _ _ _ _ _ _) d).box #[.slice ap P.length cp, .slice ah H.length ch, .slice ab B.length cb] 26)
 clear hc1 hg1 G0 d
 go_wp2_with fail
 refine (one_calls (w.heap.size + 1) _ (0 + 1000) 12 _ (G2.out.cur C1.out) (by omega) (by omega) (by omega)).mono ?_
 rintro e w3 ⟨bb, rfl, hc1, hg1⟩
 have G3 := hide (G2.out.drawn hc1 hg1)
 clear hc1 hg1 G2
 go_upto_if 17 with fail
 go_cut [7] (fun s7 wx => ∃ A' : Int, s7 = .int .i64 A' ∧ (-2 ≤ A' ∧ A' ≤ 10) ∧ Guest (w.heap.size + 1) (w.heap.size + 1 + 1) W1 wx (TCur (w.heap.size + 1) (.slice a0 zs.length cap0) (0 + 1000 + 2 + 2)) [TBox w2.heap.size #[.slice ap P.length cp, .slice ah H.length ch, .slice ab B.length cb] 26, TDsk (.slice ap P.length cp) (.slice ah H.length ch) (.slice ab B.length cb) P H B])
 case first =>
  cases bb with
  | false =>
   go_wp2_with fail
   go_meet
   exact ⟨_, rfl, ⟨by omega, by omega⟩, G3.out.drawn ((G3.out.cur C1.out).mono (by omega)) (World.grownBy.refl _ _)⟩
  | true =>
   go_wp2_with fail
   refine (pick_calls (w.heap.size + 1) _ (0 + 1000 + 2) 5 _ (G3.out.cur C1.out) (by omega) (by omega) (by omega)).mono ?_
   rintro e w4 ⟨r, hr, rfl, hc1, hg1⟩
   have G4 := hide (G3.out.drawn hc1 hg1)
   clear hc1 hg1 G3
   go_wp2_with fail
   go_meet
   exact ⟨_, rfl, ⟨by omega, by omega⟩, G4.out⟩
 case rest =>
  clear G3 hA
  obtain ⟨A, rfl, hA, hG⟩ := hcut
  have G4 := hide hG
  clear hG
  go_wp2
  refine wp_region_noPanic ?_
  refine wp_region_held_drew (S := fun w' => w'.cell? ⟨w2.heap.size, 0, none⟩ = some (.slice ap P.length cp) ∧ w'.cell? ⟨w2.heap.size, 1, none⟩ = some (.slice ah H.length ch) ∧ w'.cell? ⟨w2.heap.size, 2, none⟩ = some (.slice ab B.length cb)) (by kernel_rfl) ((G4.out.step (Below.refl _ _).drew).atBox 0 rfl |>.c3) (fun hHeld => ?_)
  have G5 := hide (G4.out.step (Below.refl _ _).drew)
  clear G4
  generalize World.drew _ = V0 at *
  refine qt 0 ?v1 rfl (by kernel_rfl) (by kernel_rfl) (by kernel_rfl) (by rfl) ?hy1 (by assumption) (fun _ _ _ h => h) ?rest1
  case hy1 => intro _ s; dsimp only [qa,qb,qc] at s ⊢; go_simp; try with_reducible rfl
  try simp only [Act.put,qa,qb,qc,qd,qe,qf]
  refine qt 1 ?v2 rfl (by kernel_rfl) (by kernel_rfl) (by kernel_rfl) (by rfl) ?hy2 (by assumption) (fun _ _ _ h => h) ?rest2
  case hy2 => intro _ s; dsimp only [qa,qb,qc] at s ⊢; go_simp; try with_reducible rfl
  try simp only [Act.put,qa,qb,qc,qd,qe,qf]
  refine qt 2 ?v3 rfl (by kernel_rfl) (by kernel_rfl) (by kernel_rfl) (by rfl) ?hy3 (by assumption) (fun _ _ _ h => h) ?rest3
  case hy3 => intro _ s; dsimp only [qa,qb,qc] at s ⊢; go_simp; try with_reducible rfl
  try simp only [Act.put,qa,qb,qc,qd,qe,qf]
  refine qs 3 (by kernel_rfl) rfl (fun K hK => ?_)
  dsimp only [qa,qb,qc]
  go_simp
  have G6 := hide (G5.out.step (below_box V0 (.cells #[.int .i64 0, .int .i64 0, .int .i64 0, .int .i64 1, .int .i64 2, .int .i64 3, .int .i64 9] 3)))
  have hlt : w.heap.size + 1 < V0.heap.size := curS_lt (G5.out.cur C1.out)
  have RDB := hide (rd_build (w := V0) (l := [0, 0, 0, 1, 2, 3, 9]) hlt (by decide))
  clear hHeld G5
  refine hK.out _ _ ((G6.out.atBox 0 rfl).c3) (fun hHeld => ?_)
  clear hK K
  try simp only [Act.put,qa,qb,qc,qd,qe,qf]
  refine qs 4 (by kernel_rfl) rfl (fun K hK => ?_)
  dsimp only [qa,qb,qc]
  go_simp
  refine (among_calls (w.heap.size + 1) _ _ [0, 0, 0, 1, 2, 3, 9] (0 + 1000 + 2 + 2) _ (G6.out.cur C1.out) (by omega) RDB.out (by decide) (by decide)).mono ?_
  rintro e' V1 ⟨z, rfl, hc1, hg1⟩
  have G7 := hide (G6.out.drawn hc1 hg1)
  clear hc1 hg1 hHeld G6 RDB
  refine hK.out _ _ ((G7.out.atBox 0 rfl).c3) (fun hHeld => ?_)
  clear hK K
  try simp only [Act.put,qa,qb,qc,qd,qe,qf]
  refine qs 5 (by kernel_rfl) rfl (fun K hK => ?_)
  have XB := hide (X1.out.chg G7.out.chg (.inl (Nat.lt_succ_self _)))
  obtain ⟨d0, d1, d2⟩ := XB.out.c3
  have g0 := XB.out.frozen 0
  have g1 := XB.out.frozen 1
  have g2 := XB.out.frozen 2
  have XZ := hide (XB.out.store3 (.slice ap P.length cp) (.slice ah H.length ch) (.slice ab B.length cb))
  have cz := Chg.store3 (lo := w.heap.size) (hi := w.heap.size + 1) V1 w.heap.size (.slice ap P.length cp) (.slice ah H.length ch) (.slice ab B.length cb) (Nat.le_refl _) (Nat.lt_succ_self _)
  have BZ := hide ((BW.out.grown G7.out.grown BW.out.size (fun k hk => by simp at hk; omega)).trans (cz.below (Nat.le_refl _) (by have := G7.out.chg.size; have := SZ.out; omega)))
  obtain ⟨q1, q2, dd, hq1, hq2, _⟩ := G7.out.open 1 rfl
  have D7 : DskV V1 q1 q2 (.slice ap P.length cp) (.slice ah H.length ch) (.slice ab B.length cb) P H B := dd
  have DZ := hide ((D7.chg cz (.inr (by have := SZ.out; omega))).wider (lo' := w.heap.size) (hi' := (((V1.setCell ⟨w.heap.size, 0, none⟩ (.slice ap P.length cp)).setCell ⟨w.heap.size, 1, none⟩ (.slice ah H.length ch)).setCell ⟨w.heap.size, 2, none⟩ (.slice ab B.length cb)).heap.size) (by have := SZ.out; omega) (Nat.le_trans hq2 cz.size))
  have SS := hide (((G7.out.atBox 0 rfl).chg cz (.inr (by have := G7.out.get 0 rfl; obtain ⟨u1, u2, u3, u4, u5⟩ := G7.out.open 0 rfl; have := u3.1; have := u4; have := SZ.out; omega))).c3)
  clear hHeld dd D7 cz
  dsimp only [qa,qb,qc]
  go_simp
  clear d0 d1 d2 g0 g1 g2
  refine hK.out _ _ (SS.out) (fun hHeld => ?_)
  clear hK K
  try simp only [Act.put,qa,qb,qc,qd,qe,qf]
  refine qs 6 (by kernel_rfl) rfl (fun K hK => ?_)
  dsimp only [qa,qb,qc]
  go_simp
  refine hK.out _ _ (SS.out) (fun hHeld => ?_)
  clear hK K
  try simp only [Act.put,qa,qb,qc,qd,qe,qf]
  refine qs 7 (by kernel_rfl) rfl (fun K hK => ?_)
  dsimp only [qa,qb,qc]
  go_simp
  refine hK.out _ _ (SS.out) (fun hHeld => ?_)
  clear hK K
  try simp only [Act.put,qa,qb,qc,qd,qe,qf]
  refine wpAnyH_done (by kernel_rfl) ?_ _
  refine NoPanic.normal ?_
  clear hHeld
  go_wp2
  exact bodyPost_ret (res_dsk3 rfl _ _ w.heap.size _ _ _ (0, 0) rfl XZ.out) rfl ⟨_, _, _, _, _, _, A, z, rfl, DZ.out, ⟨by omega, by omega⟩, BZ.out⟩
end Go.Proofs.YthdbacihhmilbaaGreatDoor
