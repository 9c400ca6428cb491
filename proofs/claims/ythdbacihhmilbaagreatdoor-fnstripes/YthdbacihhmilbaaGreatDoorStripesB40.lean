/-
  The drawing of WriteStripe's arguments out of bytes, where striped answers as StripedOk says. The contract says what it asks. StepDisk of the program where a sector goes bad, told alone. It asks that the disk be good and the place a sector's.
-/
import Derived.Test.YthdbacihhmilbaaGreatDoorStripesB39
import Derived.Test.YthdbacihhmilbaaGreatDoorStripesB18
import Derived.Test.YthdbacihhmilbaaGreatDoorStripesB7
import Derived.Deep.DeepCutAuto
import Derived.Test.YthdbacihhmilbaaGreatDoorStripesB34
import Derived.Test.YthdbacihhmilbaaGreatDoorStripesB15
import Derived.Test.YthdbacihhmilbaaGreatDoorStripesB0
set_option linter.unusedVariables false
set_option maxRecDepth 100000
set_option linter.unusedSimpArgs false
set_option maxHeartbeats 6400000
namespace Go.Proofs.YthdbacihhmilbaaGreatDoor
open Go.RowKit
theorem cur_apart {u : World} {g g3 k : Nat} {cv : Value} {cs : Array Value} {T : TypeId} (h : CurS u g cv k) (hb : BoxAt u g3 cs T) (hT : T ≠ 65) : g ≠ g3 := by
 rintro rfl
 obtain ⟨n, s, _, hh⟩ := h.at_
 have e : some (Obj.cells cs T (0, 0)) = some (Obj.cells #[cv, .int .i64 n, .int .u64 s] 65 (0, 0)) := Eq.trans (Eq.symm hb) hh
 simp only [Option.some.injEq, Obj.cells.injEq] at e
 exact hT e.2.1
theorem box_kept {u w' : World} {g g3 k : Nat} {cv : Value} {cs : Array Value} {T : TypeId} (h : CurS u g cv k) (hb : BoxAt u g3 cs T) (hT : T ≠ 65) (hg : u.grownBy w' (some g)) : BoxAt w' g3 cs T :=
 hb.chg (grown_cur hg) (by have := cur_apart h hb hT; omega)
theorem rd_box {u : World} {g g3 k : Nat} {cv : Value} {l : List Int} (h : CurS u g cv k) (hb : BoxAt u g3 (l.map (Value.int .i64)).toArray 3) (hm : l.length ≤ maxLen) : ∀ w', u.grownBy w' (some g) → Rd w' (.slice (some ⟨g3, 0, none⟩) l.length l.length) l := by
 intro w' hg
 have hb' := box_kept h hb (by decide) hg
 refine ⟨_, _, rfl, Nat.le_refl _, ⟨hm, by simp⟩, .inr ⟨g3, 0, rfl, hb'.lt, fun i hi => ?_⟩⟩
 rw [Nat.zero_add, hb'.cell i, List.getElem?_toArray, List.getElem?_map, List.getElem?_eq_getElem hi, qg, List.getElem?_eq_getElem hi]
 rfl
theorem rdS_box {u : World} {g g3 k : Nat} {cv : Value} {l : List ByteArray} (h : CurS u g cv k) (hb : BoxAt u g3 (l.map Value.string).toArray 9) : ∀ w', u.grownBy w' (some g) → RdS w' (.slice (some ⟨g3, 0, none⟩) l.length l.length) l := by
 intro w' hg
 have hb' := box_kept h hb (by decide) hg
 refine ⟨g3, rfl, fun i hi => ?_⟩
 rw [hb'.cell i, List.getElem?_toArray, List.getElem?_map, List.getElem?_eq_getElem hi, qg, List.getElem?_eq_getElem hi]
 rfl
theorem conv_box {W' : World} {g n : Nat} (h : BoxAt W' g (madeCells #[.int .u8 0] n) 5) :
    (convert 22 9 (.slice (some ⟨g, 0, none⟩) n n)).run Tryz.prog W' = .ok (.string (zst n)) W' := by
 have hz : ZRow W' g (List.replicate n 0) := by
  unfold ZRow
  rw [h]
  congr 2
  apply Array.ext'
  rw [toList_madeCells_one]
  simp [u8v]
 have := hz.conv (n := n) (cap := n) (fun y hy => by have := (List.mem_replicate.1 hy).2; omega) (by simp)
 rw [List.take_of_length_le (by simp)] at this
 rw [this]
 congr 2
 apply bs_inj
 rw [bs_zst, bs_ofN (fun y hy => by have := (List.mem_replicate.1 hy).2; omega)]
theorem draw_fin {w W1 V1 : World} {g k i : Nat} {cv p h b : Value} {P H : List ByteArray} {B : List Bool} {L : List Tg} (hg : g = w.heap.size + 1) (X1 : BoxAt W1 w.heap.size nil3 26) (sz : W1.heap.size = w.heap.size + 2) (BW : Below w.heap.size w W1)
    (G : Guest g (g + 1) W1 V1 (TCur g cv k) L) (hi : L[i]? = some (TDsk p h b P H B)) (V2 : World) (hV : V2 = ((V1.setCell ⟨w.heap.size, 0, none⟩ p).setCell ⟨w.heap.size, 1, none⟩ h).setCell ⟨w.heap.size, 2, none⟩ b) :
    BoxAt V2 w.heap.size #[p, h, b] 26 ∧ DskV V2 w.heap.size V2.heap.size p h b P H B ∧ Below w.heap.size w V2 ∧ ∀ (j g' : Nat) (cs : Array Value) (T : TypeId), L[j]? = some (TBox g' cs T) → BoxAt V2 g' cs T := by
 subst hg hV
 have cz := Chg.store3 (lo := w.heap.size) (hi := w.heap.size + 1) V1 w.heap.size p h b (Nat.le_refl _) (Nat.lt_succ_self _)
 have gs := G.chg.size
 have XB := X1.chg G.chg (.inl (Nat.lt_succ_self _))
 obtain ⟨q1, q2, dd, hq1, hq2, _⟩ := G.open i hi
 have D7 : DskV V1 q1 q2 p h b P H B := dd
 refine ⟨XB.store3 _ _ _, (D7.chg cz (.inr (by omega))).wider (by omega) (Nat.le_trans hq2 cz.size), (BW.grown G.grown BW.size (fun k hk => by simp at hk; omega)).trans (cz.below (Nat.le_refl _) (by omega)), ?_⟩
 intro j g' cs T hj
 obtain ⟨u1, u2, u3, u4, u5, _⟩ := G.open j hj
 have u3' : u1 ≤ g' ∧ g' < u2 ∧ BoxAt V1 g' cs T := u3
 exact u3'.2.2.chg cz (.inr (by omega))
theorem box_st {u : World} {r g : Nat} {a b c : Value} {cs : Array Value} {T T' : TypeId} (x : BoxAt u r #[a, b, c] T) (hb : BoxAt u g cs T') (hT : T ≠ T') (v0 v1 v2 : Value) : BoxAt (((u.setCell ⟨r, 0, none⟩ v0).setCell ⟨r, 1, none⟩ v1).setCell ⟨r, 2, none⟩ v2) g cs T' := by
 have hne : r ≠ g := by
  rintro rfl
  have e : some (Obj.cells #[a, b, c] T (0, 0)) = some (Obj.cells cs T' (0, 0)) := Eq.trans (Eq.symm x) hb
  simp only [Option.some.injEq, Obj.cells.injEq] at e
  exact hT e.2.1
 exact hb.chg (Chg.store3 (lo := r) (hi := r + 1) u r v0 v1 v2 (Nat.le_refl _) (Nat.lt_succ_self _)) (by omega)
theorem wpAnyH_and {P : Program} {md : Region.Mode} {ops : Array Oper} {Q : Exit → Act → World → Prop} {S : World → Prop} (C : World → Prop) {fuel : Nat} {listed : Array Bool} {a : Act} {w : World} (h : wpAnyH P md ops Q (fun w' => S w' ∧ C w') fuel listed a w) : wpAnyH P md ops Q S fuel listed a w := wpAnyH_imp (fun _ h => h.1) _ _ _ _ h
theorem tx48 : ∀ i, i < ([⟨#[]⟩, ⟨#[116, 101, 120, 116]⟩, zst 47, zst 48] : List ByteArray).length → (([⟨#[]⟩, ⟨#[116, 101, 120, 116]⟩, zst 47, zst 48] : List ByteArray).getD i ⟨#[]⟩).size ≤ 48 := by
 intro i hi
 have : i = 0 ∨ i = 1 ∨ i = 2 ∨ i = 3 := by simp at hi; omega
 rcases this with rfl | rfl | rfl | rfl
 ·decide
 ·decide
 ·show (zst 47).size ≤ 48
  rw [zst_size]; omega
 ·show (zst 48).size ≤ 48
  rw [zst_size]; omega
theorem mk_row (n : Nat) (hn : n ≤ 1000) (W : World) : (Instr.makeSlice 22 (.int .i64 (n : Int)) (.int .i64 (n : Int))).run Tryz.prog W = .ok (.slice (some ⟨W.heap.size, 0, none⟩) n n) (W.alloc (.cells (madeCells #[.int .u8 0] n) 5)) := by
 exact run_make_row' (P := Tryz.prog) 22 5 (.int .u8 0) 1 Tryz.underlying22 infoByte rfl .i64 .i64 n (by omega) (by omega) W
theorem res_dsk4 {fn : Func} {x u v y : Tmp} (hf : fn.results = #[.cell x 26, .tmp u, .tmp v, .tmp y]) (tmps : Array Value) (w : World) (g : Nat) (p h b : Value) (fr : Nat × Nat) (hp : tmps.getD x undef = .pointer (some ⟨g, 0, none⟩))
    (hg : w.heap[g]? = some (.cells #[p, h, b] 26 fr)) : (results fn tmps).run Tryz.prog w = .ok (.tuple #[.agg #[p, h, b], tmps.getD u undef, tmps.getD v undef, tmps.getD y undef]) w := by
 have hp' : tmps[x]?.getD undef = .pointer (some ⟨g, 0, none⟩) := by simpa using hp
 simp [results, hf, hp', asAddr, run_loadVar_row w g _ _ _ fr _ hg Tryz.underlying26 rfl dskInfo]
theorem drawWriteStripe_of (hStr : StripedOk) (cv : Value) (w : World) (h : RdB w cv) :
    Calls Tryz.prog 5 #[cv] w fun e w' => ∃ p h b P H B A E S, S.size ≤ 48 ∧ e = .returned (.tuple #[.agg #[p, h, b], .int .i64 A, .int .i64 E, .string S]) ∧ DskV w' w.heap.size w'.heap.size p h b P H B ∧ (-2 ≤ A ∧ A ≤ 10) ∧ Below w.heap.size w w' := by
 have b0 := below_box w (.cells nil3 26)
 have C0 := cur_new (h.below b0)
 have x0 := BoxAt.new w nil3 26
 obtain ⟨a0, cap0, zs, rfl, _, _, _⟩ := h
 go_enter Tryz.func5, Tryz.ntmps5
 go_wp2_with fail
 have C1 : Hid (CurS ((w.alloc (.cells nil3 26)).alloc (.cells #[.slice a0 zs.length cap0, .int .i64 0, .int .u64 0] 65)) (w.heap.size + 1) (.slice a0 zs.length cap0) 0) := by
  show CurS _ _ _ _
  simpa using C0
 have b1 := below_box (w.alloc (.cells nil3 26)) (.cells #[.slice a0 zs.length cap0, .int .i64 0, .int .u64 0] 65)
 have X1 := hide (x0.below b1)
 have BW := hide (b0.trans (b1.mono b0.size))
 have sz1 : ((w.alloc (.cells nil3 26)).alloc (.cells #[.slice a0 zs.length cap0, .int .i64 0, .int .u64 0] 65)).heap.size = w.heap.size + 2 := by simp
 have SZ := hide sz1
 clear b0 b1 x0 C0 sz1
 have G0 := hide (Guest.ofCur C1.out)
 change Calls _ _ _ ((w.alloc (.cells nil3 26)).alloc (.cells #[.slice a0 zs.length cap0, .int .i64 0, .int .u64 0] 65)) _
 generalize hW : (w.alloc (.cells nil3 26)).alloc (.cells #[.slice a0 zs.length cap0, .int .i64 0, .int .u64 0] 65) = W1 at *
 clear hW
 refine (hStr (w.heap.size + 1) _ 0 W1 C1.out (by omega)).mono ?_
 rintro e w2 ⟨p, h, b, P, H, B, A, rfl, d, hA, hc1, hg1⟩
 obtain ⟨ap, cp, ah, ch, ab, cb, rfl, rfl, rfl⟩ := d.sl
 have G2 := hide ((G0.out.addG hc1 hg1 (TDsk.st _ _ _ _ _ _) d).box #[.slice ap P.length cp, .slice ah H.length ch, .slice ab B.length cb] 26)
 clear hc1 hg1 G0 d
 go_wp2_with fail
 refine (one_calls (w.heap.size + 1) _ (0 + 1000) 12 _ (G2.out.cur C1.out) (by omega) (by omega) (by omega)).mono ?_
 rintro e w3 ⟨bb, rfl, hc1, hg1⟩
 have G3 := hide (G2.out.drawn hc1 hg1)
 clear hc1 hg1 G2
 go_upto_if 18 with fail
 go_cut [8] (fun s8 wx => ∃ A' : Int, s8 = .int .i64 A' ∧ (-2 ≤ A' ∧ A' ≤ 10) ∧ Guest (w.heap.size + 1) (w.heap.size + 1 + 1) W1 wx (TCur (w.heap.size + 1) (.slice a0 zs.length cap0) (0 + 1000 + 2 + 2)) [TBox w2.heap.size #[.slice ap P.length cp, .slice ah H.length ch, .slice ab B.length cb] 26, TDsk (.slice ap P.length cp) (.slice ah H.length ch) (.slice ab B.length cb) P H B])
 case first =>
  cases bb with
  | false =>
   go_wp2_with fail
   go_meet
   exact ⟨_, rfl, ⟨by omega, by omega⟩, G3.out.drawn ((G3.out.cur C1.out).mono (by omega)) (World.grownBy.refl _ _)⟩
  | true =>
   go_wp2_with fail
   refine (pick_calls (w.heap.size + 1) _ (0 + 1000 + 2) 5 _ (G3.out.cur C1.out) (by omega) (by omega) (by omega)).mono ?_
   rintro e w4 ⟨r, hr, rfl, hc1, hg1⟩
   have G4 := hide (G3.out.drawn hc1 hg1)
   clear hc1 hg1 G3
   go_wp2_with fail
   go_meet
   exact ⟨_, rfl, ⟨by omega, by omega⟩, G4.out⟩
 case rest =>
  clear G3 hA
  obtain ⟨A, rfl, hA, hG⟩ := hcut
  have K0 := hide hG
  clear hG
  obtain ⟨gc, hgc⟩ : ∃ gc, gc = w.heap.size + 1 := ⟨_, rfl⟩
  obtain ⟨gd, hgd⟩ : ∃ gd, gd = w2.heap.size := ⟨_, rfl⟩
  have GC := hide hgc
  rw [← hgc] at K0 C1 ⊢
  rw [← hgd] at K0 ⊢
  clear hgc hgd
  have mk7 : ∀ W : World, (Instr.makeSlice 22 (.int .i64 47) (.int .i64 47)).run Tryz.prog W = .ok (.slice (some ⟨W.heap.size, 0, none⟩) 47 47) (W.alloc (.cells (madeCells #[.int .u8 0] 47) 5)) := fun W => mk_row 47 (by omega) W
  have mk8 : ∀ W : World, (Instr.makeSlice 22 (.int .i64 48) (.int .i64 48)).run Tryz.prog W = .ok (.slice (some ⟨W.heap.size, 0, none⟩) 48 48) (W.alloc (.cells (madeCells #[.int .u8 0] 48) 5)) := fun W => mk_row 48 (by omega) W
  go_upto_region 5 with fail
  refine wp_region_noPanic ?_
  have G := hide (K0.out.step (Below.refl _ _).drew)
  refine wp_region_held_drew (S := fun w' => w'.cell? ⟨gd, 0, none⟩ = some (.slice ap P.length cp) ∧ w'.cell? ⟨gd, 1, none⟩ = some (.slice ah H.length ch) ∧ w'.cell? ⟨gd, 2, none⟩ = some (.slice ab B.length cb)) (by kernel_rfl) ((G.out.atBox 0 rfl).c3) (fun hHeld => ?_)
  clear K0
  generalize World.drew _ = u at *
  refine qt 0 ?v1 rfl (by kernel_rfl) (by kernel_rfl) (by kernel_rfl) (by rfl) ?hy1 (by assumption) (fun _ _ _ h => h) ?rest1
  case hy1 => intro _ s; dsimp only [qa,qb,qc] at s ⊢; go_simp; try with_reducible rfl
  try simp only [Act.put,qa,qb,qc,qd,qe,qf]
  refine qt 1 ?v2 rfl (by kernel_rfl) (by kernel_rfl) (by kernel_rfl) (by rfl) ?hy2 (by assumption) (fun _ _ _ h => h) ?rest2
  case hy2 => intro _ s; dsimp only [qa,qb,qc] at s ⊢; go_simp; try with_reducible rfl
  try simp only [Act.put,qa,qb,qc,qd,qe,qf]
  refine qt 2 ?v3 rfl (by kernel_rfl) (by kernel_rfl) (by kernel_rfl) (by rfl) ?hy3 (by assumption) (fun _ _ _ h => h) ?rest3
  case hy3 => intro _ s; dsimp only [qa,qb,qc] at s ⊢; go_simp; try with_reducible rfl
  try simp only [Act.put,qa,qb,qc,qd,qe,qf]
  refine qt 5 ?v4 rfl (by kernel_rfl) (by kernel_rfl) (by kernel_rfl) (by rfl) ?hy4 (by assumption) (fun _ _ _ h => h) ?rest4
  case hy4 => intro _ s; dsimp only [qa,qb,qc] at s ⊢; go_simp; try with_reducible rfl
  try simp only [Act.put,qa,qb,qc,qd,qe,qf]
  clear hHeld
  iterate 6
   all_goals first
    | (refine wpAnyH_ready (rs := [3, 6, 8]) (by decide +kernel) (by simp) ?_; refine AllReadyH.cons rfl (fun KK hK => ?_) (AllReadyH.cons rfl (fun KK hK => ?_) (AllReadyH.cons rfl (fun KK hK => ?_) (AllReadyH.nil))))
    | (refine wpAnyH_ready (rs := [3, 8]) (by decide +kernel) (by simp) ?_; refine AllReadyH.cons rfl (fun KK hK => ?_) (AllReadyH.cons rfl (fun KK hK => ?_) (AllReadyH.nil)))
    | (refine wpAnyH_ready (rs := [3, 6]) (by decide +kernel) (by simp) ?_; refine AllReadyH.cons rfl (fun KK hK => ?_) (AllReadyH.cons rfl (fun KK hK => ?_) (AllReadyH.nil)))
    | (refine wpAnyH_ready (rs := [3, 10]) (by decide +kernel) (by simp) ?_; refine AllReadyH.cons rfl (fun KK hK => ?_) (AllReadyH.cons rfl (fun KK hK => ?_) (AllReadyH.nil)))
    | (refine wpAnyH_ready (rs := [3]) (by decide +kernel) (by simp) ?_; refine AllReadyH.cons rfl (fun KK hK => ?_) (AllReadyH.nil))
    | (refine wpAnyH_ready (rs := [4, 6, 8]) (by decide +kernel) (by simp) ?_; refine AllReadyH.cons rfl (fun KK hK => ?_) (AllReadyH.cons rfl (fun KK hK => ?_) (AllReadyH.cons rfl (fun KK hK => ?_) (AllReadyH.nil))))
    | (refine wpAnyH_ready (rs := [4, 8]) (by decide +kernel) (by simp) ?_; refine AllReadyH.cons rfl (fun KK hK => ?_) (AllReadyH.cons rfl (fun KK hK => ?_) (AllReadyH.nil)))
    | (refine wpAnyH_ready (rs := [4, 6]) (by decide +kernel) (by simp) ?_; refine AllReadyH.cons rfl (fun KK hK => ?_) (AllReadyH.cons rfl (fun KK hK => ?_) (AllReadyH.nil)))
    | (refine wpAnyH_ready (rs := [4, 10]) (by decide +kernel) (by simp) ?_; refine AllReadyH.cons rfl (fun KK hK => ?_) (AllReadyH.cons rfl (fun KK hK => ?_) (AllReadyH.nil)))
    | (refine wpAnyH_ready (rs := [4]) (by decide +kernel) (by simp) ?_; refine AllReadyH.cons rfl (fun KK hK => ?_) (AllReadyH.nil))
    | (refine wpAnyH_ready (rs := [6, 8]) (by decide +kernel) (by simp) ?_; refine AllReadyH.cons rfl (fun KK hK => ?_) (AllReadyH.cons rfl (fun KK hK => ?_) (AllReadyH.nil)))
    | (refine wpAnyH_ready (rs := [8]) (by decide +kernel) (by simp) ?_; refine AllReadyH.cons rfl (fun KK hK => ?_) (AllReadyH.nil))
    | (refine wpAnyH_ready (rs := [6]) (by decide +kernel) (by simp) ?_; refine AllReadyH.cons rfl (fun KK hK => ?_) (AllReadyH.nil))
    | (refine wpAnyH_ready (rs := [10]) (by decide +kernel) (by simp) ?_; refine AllReadyH.cons rfl (fun KK hK => ?_) (AllReadyH.nil))
    | (refine wpAnyH_ready (rs := [11]) (by decide +kernel) (by simp) ?_; refine AllReadyH.cons rfl (fun KK hK => ?_) (AllReadyH.nil))
   all_goals dsimp only [qa,qb,qc]
   all_goals go_simp
   all_goals first
    | (refine (among_calls gc _ _ [-1, 0, 5, 9, 60000, 60001] _ _ (G.out.cur C1.out) (by omega) (rd_box (G.out.cur C1.out) B3.out (by decide)) (by decide) (by decide)).mono ?_
       rintro e' u ⟨z4, rfl, hc1, hg1⟩
       clear B3
       try replace B6 := hide (box_kept (G.out.cur C1.out) B6.out (by decide) hg1)
       try replace B8 := hide (box_kept (G.out.cur C1.out) B8.out (by decide) hg1)
       try replace B10 := hide (box_kept (G.out.cur C1.out) B10.out (by decide) hg1)
       replace G := hide (G.out.drawn hc1 hg1)
       clear hc1 hg1
       refine hK.out _ _ (by first | exact (G.out.atBox 0 rfl).c3 | exact ⟨(G.out.atBox 0 rfl).c3, conv_box B6.out⟩ | exact ⟨(G.out.atBox 0 rfl).c3, conv_box B8.out⟩ | exact ⟨⟨(G.out.atBox 0 rfl).c3, conv_box B6.out⟩, conv_box B8.out⟩ | exact ⟨⟨(G.out.atBox 0 rfl).c3, conv_box B8.out⟩, conv_box B6.out⟩) (fun hHeld => ?_)
       clear hK KK hHeld
       try simp only [Act.put,qa,qb,qc,qd,qe,qf])
    | (refine (of_calls gc _ _ [⟨#[]⟩, ⟨#[116, 101, 120, 116]⟩, zst 47, zst 48] _ 48 _ (G.out.cur C1.out) (by omega) (rdS_box (G.out.cur C1.out) B10.out) (by decide) (by decide) tx48).mono ?_
       rintro e' u ⟨S9, hS9, rfl, hc1, hg1⟩
       clear B10
       try replace B6 := hide (box_kept (G.out.cur C1.out) B6.out (by decide) hg1)
       try replace B8 := hide (box_kept (G.out.cur C1.out) B8.out (by decide) hg1)
       replace G := hide (G.out.drawn hc1 hg1)
       clear hc1 hg1
       refine hK.out _ _ (by first | exact (G.out.atBox 0 rfl).c3 | exact ⟨(G.out.atBox 0 rfl).c3, conv_box B6.out⟩ | exact ⟨(G.out.atBox 0 rfl).c3, conv_box B8.out⟩ | exact ⟨⟨(G.out.atBox 0 rfl).c3, conv_box B6.out⟩, conv_box B8.out⟩ | exact ⟨⟨(G.out.atBox 0 rfl).c3, conv_box B8.out⟩, conv_box B6.out⟩) (fun hHeld => ?_)
       clear hK KK hHeld
       try simp only [Act.put,qa,qb,qc,qd,qe,qf])
    | (obtain ⟨g3, hgq⟩ : ∃ x, x = u.heap.size := ⟨_, rfl⟩
       have nb := BoxAt.new u #[.int .i64 (-1), .int .i64 0, .int .i64 5, .int .i64 9, .int .i64 60000, .int .i64 60001] 3
       have bb := below_box u (.cells #[.int .i64 (-1), .int .i64 0, .int .i64 5, .int .i64 9, .int .i64 60000, .int .i64 60001] 3)
       obtain ⟨u, hv⟩ : ∃ x, x = u.alloc (.cells #[.int .i64 (-1), .int .i64 0, .int .i64 5, .int .i64 9, .int .i64 60000, .int .i64 60001] 3) := ⟨_, rfl⟩
       rw [← hv, ← hgq]
       rw [← hv, ← hgq] at nb
       rw [← hv] at bb
       replace G := hide (G.out.step bb)
       try replace B6 := hide (B6.out.below bb)
       try replace B8 := hide (B8.out.below bb)
       try replace B10 := hide (B10.out.below bb)
       have B3 : Hid (BoxAt u g3 (([-1, 0, 5, 9, 60000, 60001] : List Int).map (Value.int .i64)).toArray 3) := nb
       clear nb bb hv hgq
       refine hK.out _ _ (by first | exact (G.out.atBox 0 rfl).c3 | exact ⟨(G.out.atBox 0 rfl).c3, conv_box B6.out⟩ | exact ⟨(G.out.atBox 0 rfl).c3, conv_box B8.out⟩ | exact ⟨⟨(G.out.atBox 0 rfl).c3, conv_box B6.out⟩, conv_box B8.out⟩ | exact ⟨⟨(G.out.atBox 0 rfl).c3, conv_box B8.out⟩, conv_box B6.out⟩) (fun hHeld => ?_)
       clear hK KK hHeld
       try simp only [Act.put,qa,qb,qc,qd,qe,qf])
    | (obtain ⟨g10, hgq⟩ : ∃ x, x = u.heap.size := ⟨_, rfl⟩
       have nb := BoxAt.new u #[.string ⟨#[]⟩, .string ⟨#[116, 101, 120, 116]⟩, .string (zst 47), .string (zst 48)] 9
       have bb := below_box u (.cells #[.string ⟨#[]⟩, .string ⟨#[116, 101, 120, 116]⟩, .string (zst 47), .string (zst 48)] 9)
       obtain ⟨u, hv⟩ : ∃ x, x = u.alloc (.cells #[.string ⟨#[]⟩, .string ⟨#[116, 101, 120, 116]⟩, .string (zst 47), .string (zst 48)] 9) := ⟨_, rfl⟩
       rw [← hv, ← hgq]
       rw [← hv, ← hgq] at nb
       rw [← hv] at bb
       replace G := hide (G.out.step bb)
       try replace B3 := hide (B3.out.below bb)
       try replace B6 := hide (B6.out.below bb)
       try replace B8 := hide (B8.out.below bb)
       have B10 : Hid (BoxAt u g10 (([⟨#[]⟩, ⟨#[116, 101, 120, 116]⟩, zst 47, zst 48] : List ByteArray).map Value.string).toArray 9) := nb
       clear nb bb hv hgq
       refine hK.out _ _ (by first | exact (G.out.atBox 0 rfl).c3 | exact ⟨(G.out.atBox 0 rfl).c3, conv_box B6.out⟩ | exact ⟨(G.out.atBox 0 rfl).c3, conv_box B8.out⟩ | exact ⟨⟨(G.out.atBox 0 rfl).c3, conv_box B6.out⟩, conv_box B8.out⟩ | exact ⟨⟨(G.out.atBox 0 rfl).c3, conv_box B8.out⟩, conv_box B6.out⟩) (fun hHeld => ?_)
       clear hK KK hHeld
       try simp only [Act.put,qa,qb,qc,qd,qe,qf])
    | (obtain ⟨g6, hgq⟩ : ∃ x, x = u.heap.size := ⟨_, rfl⟩
       have nb := BoxAt.new u (madeCells #[.int .u8 0] 47) 5
       have bb := below_box u (.cells (madeCells #[.int .u8 0] 47) 5)
       obtain ⟨u, hv⟩ : ∃ x, x = u.alloc (.cells (madeCells #[.int .u8 0] 47) 5) := ⟨_, rfl⟩
       rw [← hv, ← hgq]
       rw [← hv, ← hgq] at nb
       rw [← hv] at bb
       replace G := hide (G.out.step bb)
       try replace B3 := hide (B3.out.below bb)
       try replace B8 := hide (B8.out.below bb)
       try replace B10 := hide (B10.out.below bb)
       have B6 : Hid (BoxAt u g6 (madeCells #[.int .u8 0] 47) 5) := nb
       clear nb bb hv hgq
       refine hK.out _ _ (by first | exact (G.out.atBox 0 rfl).c3 | exact ⟨(G.out.atBox 0 rfl).c3, conv_box B6.out⟩ | exact ⟨(G.out.atBox 0 rfl).c3, conv_box B8.out⟩ | exact ⟨⟨(G.out.atBox 0 rfl).c3, conv_box B6.out⟩, conv_box B8.out⟩ | exact ⟨⟨(G.out.atBox 0 rfl).c3, conv_box B8.out⟩, conv_box B6.out⟩) (fun hHeld => ?_)
       clear hK KK hHeld
       try simp only [Act.put,qa,qb,qc,qd,qe,qf]
       refine wpAnyH_and (fun w' => (convert 22 9 (.slice (some ⟨g6, 0, none⟩) 47 47)).run Tryz.prog w' = .ok (.string (zst 47)) w') ?_
       refine wpAnyH_take (i := 7) (v := .string (zst 47)) rfl (by kernel_rfl) (by kernel_rfl) (by kernel_rfl) (fun _ _ _ h => h) (Or.inl ⟨by rfl, ?_⟩) ⟨(by first | exact (G.out.atBox 0 rfl).c3 | exact ⟨(G.out.atBox 0 rfl).c3, conv_box B6.out⟩ | exact ⟨(G.out.atBox 0 rfl).c3, conv_box B8.out⟩ | exact ⟨⟨(G.out.atBox 0 rfl).c3, conv_box B6.out⟩, conv_box B8.out⟩ | exact ⟨⟨(G.out.atBox 0 rfl).c3, conv_box B8.out⟩, conv_box B6.out⟩), conv_box B6.out⟩ ?_
       ·intro w' hSw; dsimp only [qa,qb,qc] at hSw ⊢; go_simp; try (with_reducible rfl)
       try simp only [Act.put,qa,qb,qc,qd,qe,qf])
    | (obtain ⟨g8, hgq⟩ : ∃ x, x = u.heap.size := ⟨_, rfl⟩
       have nb := BoxAt.new u (madeCells #[.int .u8 0] 48) 5
       have bb := below_box u (.cells (madeCells #[.int .u8 0] 48) 5)
       obtain ⟨u, hv⟩ : ∃ x, x = u.alloc (.cells (madeCells #[.int .u8 0] 48) 5) := ⟨_, rfl⟩
       rw [← hv, ← hgq]
       rw [← hv, ← hgq] at nb
       rw [← hv] at bb
       replace G := hide (G.out.step bb)
       try replace B3 := hide (B3.out.below bb)
       try replace B6 := hide (B6.out.below bb)
       try replace B10 := hide (B10.out.below bb)
       have B8 : Hid (BoxAt u g8 (madeCells #[.int .u8 0] 48) 5) := nb
       clear nb bb hv hgq
       refine hK.out _ _ (by first | exact (G.out.atBox 0 rfl).c3 | exact ⟨(G.out.atBox 0 rfl).c3, conv_box B6.out⟩ | exact ⟨(G.out.atBox 0 rfl).c3, conv_box B8.out⟩ | exact ⟨⟨(G.out.atBox 0 rfl).c3, conv_box B6.out⟩, conv_box B8.out⟩ | exact ⟨⟨(G.out.atBox 0 rfl).c3, conv_box B8.out⟩, conv_box B6.out⟩) (fun hHeld => ?_)
       clear hK KK hHeld
       try simp only [Act.put,qa,qb,qc,qd,qe,qf]
       refine wpAnyH_and (fun w' => (convert 22 9 (.slice (some ⟨g8, 0, none⟩) 48 48)).run Tryz.prog w' = .ok (.string (zst 48)) w') ?_
       refine wpAnyH_take (i := 9) (v := .string (zst 48)) rfl (by kernel_rfl) (by kernel_rfl) (by kernel_rfl) (fun _ _ _ h => h) (Or.inl ⟨by rfl, ?_⟩) ⟨(by first | exact (G.out.atBox 0 rfl).c3 | exact ⟨(G.out.atBox 0 rfl).c3, conv_box B6.out⟩ | exact ⟨(G.out.atBox 0 rfl).c3, conv_box B8.out⟩ | exact ⟨⟨(G.out.atBox 0 rfl).c3, conv_box B6.out⟩, conv_box B8.out⟩ | exact ⟨⟨(G.out.atBox 0 rfl).c3, conv_box B8.out⟩, conv_box B6.out⟩), conv_box B8.out⟩ ?_
       ·intro w' hSw; dsimp only [qa,qb,qc] at hSw ⊢; go_simp; try (with_reducible rfl)
       try simp only [Act.put,qa,qb,qc,qd,qe,qf])
  all_goals
   obtain ⟨XZ0, DZ0, BZ0, SB0⟩ := draw_fin GC.out X1.out SZ.out BW.out G.out (i := 1) rfl _ rfl
   have XZ := hide XZ0
   have DZ := hide DZ0
   have BZ := hide BZ0
   have SB := hide SB0
   clear XZ0 DZ0 BZ0 SB0
   have XB := hide (X1.out.chg G.out.chg (.inl (by have := GC.out; omega)))
   have E6 := hide (box_st XB.out B6.out (by decide) (.slice ap P.length cp) (.slice ah H.length ch) (.slice ab B.length cb))
   have E8 := hide (box_st XB.out B8.out (by decide) (.slice ap P.length cp) (.slice ah H.length ch) (.slice ab B.length cb))
   obtain ⟨d0, d1, d2⟩ := XB.out.c3
   have f0 := XB.out.frozen 0
   have f1 := XB.out.frozen 1
   have f2 := XB.out.frozen 2
   refine qs 12 (by kernel_rfl) rfl (fun KK hK => ?_)
   dsimp only [qa,qb,qc]
   go_simp
   clear d0 d1 d2 f0 f1 f2 XB
   refine hK.out _ _ (by first | exact (SB.out 0 _ _ _ rfl).c3 | exact ⟨(SB.out 0 _ _ _ rfl).c3, conv_box E6.out⟩ | exact ⟨(SB.out 0 _ _ _ rfl).c3, conv_box E8.out⟩ | exact ⟨⟨(SB.out 0 _ _ _ rfl).c3, conv_box E6.out⟩, conv_box E8.out⟩ | exact ⟨⟨(SB.out 0 _ _ _ rfl).c3, conv_box E8.out⟩, conv_box E6.out⟩) (fun hHeld => ?_)
   clear hK KK hHeld
   try simp only [Act.put,qa,qb,qc,qd,qe,qf]
   refine qs 13 (by kernel_rfl) rfl (fun KK hK => ?_)
   dsimp only [qa,qb,qc]
   go_simp
   refine hK.out _ _ (by first | exact (SB.out 0 _ _ _ rfl).c3 | exact ⟨(SB.out 0 _ _ _ rfl).c3, conv_box E6.out⟩ | exact ⟨(SB.out 0 _ _ _ rfl).c3, conv_box E8.out⟩ | exact ⟨⟨(SB.out 0 _ _ _ rfl).c3, conv_box E6.out⟩, conv_box E8.out⟩ | exact ⟨⟨(SB.out 0 _ _ _ rfl).c3, conv_box E8.out⟩, conv_box E6.out⟩) (fun hHeld => ?_)
   clear hK KK hHeld
   try simp only [Act.put,qa,qb,qc,qd,qe,qf]
   refine qs 14 (by kernel_rfl) rfl (fun KK hK => ?_)
   dsimp only [qa,qb,qc]
   go_simp
   refine hK.out _ _ (by first | exact (SB.out 0 _ _ _ rfl).c3 | exact ⟨(SB.out 0 _ _ _ rfl).c3, conv_box E6.out⟩ | exact ⟨(SB.out 0 _ _ _ rfl).c3, conv_box E8.out⟩ | exact ⟨⟨(SB.out 0 _ _ _ rfl).c3, conv_box E6.out⟩, conv_box E8.out⟩ | exact ⟨⟨(SB.out 0 _ _ _ rfl).c3, conv_box E8.out⟩, conv_box E6.out⟩) (fun hHeld => ?_)
   clear hK KK hHeld
   try simp only [Act.put,qa,qb,qc,qd,qe,qf]
   refine qs 15 (by kernel_rfl) rfl (fun KK hK => ?_)
   dsimp only [qa,qb,qc]
   go_simp
   refine hK.out _ _ (by first | exact (SB.out 0 _ _ _ rfl).c3 | exact ⟨(SB.out 0 _ _ _ rfl).c3, conv_box E6.out⟩ | exact ⟨(SB.out 0 _ _ _ rfl).c3, conv_box E8.out⟩ | exact ⟨⟨(SB.out 0 _ _ _ rfl).c3, conv_box E6.out⟩, conv_box E8.out⟩ | exact ⟨⟨(SB.out 0 _ _ _ rfl).c3, conv_box E8.out⟩, conv_box E6.out⟩) (fun hHeld => ?_)
   clear hK KK hHeld
   try simp only [Act.put,qa,qb,qc,qd,qe,qf]
   refine wpAnyH_done (by kernel_rfl) ?_ _
   refine NoPanic.normal ?_
   go_wp2
   exact bodyPost_ret (res_dsk4 rfl _ _ w.heap.size _ _ _ (0, 0) rfl XZ.out) rfl ⟨_, _, _, _, _, _, A, z4, S9, hS9, rfl, DZ.out, hA, BZ.out⟩
theorem stepBad_calls (p h b : Value) (P H : List ByteArray) (B : List Bool) (k : Nat) (w : World) (gk : gkP P H B) (hk : k < P.length) (hp : RdT w p P) (hh : RdT w h H) (hb : RdZ w b B) :
    Calls Tryz.prog 11 #[.agg #[p, h, b], .agg #[.int .i64 5, .int .i64 (k : Int), .string ⟨#[]⟩, .slice none 0 0]] w fun e w' => ∃ p' h' b', e = .returned (.tuple #[.agg #[p', h', b'], .bool true]) ∧ DskV w' w.heap.size w'.heap.size p' h' b' P (H.set k ⟨#[]⟩) (B.set k true) ∧ Below w.heap.size w w' := by
 have RP := hide hp
 have RH := hide hh
 have RB := hide hb
 have RV : Hid (Rd w (.slice none 0 0) []) := Own.rd (base := 0) (World.ownsRow_nil _ _ _ _)
 have C := hide (fun W (h1 : RdT W p P) (h2 : RdT W h H) (h3 : RdZ W b B) => goodDisk_calls p h b P H B true W ⟨fun _ => gk, fun _ => rfl⟩ h1 h2 h3)
 have A0 := hide (Hand.three w #[p, h, b] #[.int .i64 5, .int .i64 (k : Int), .string ⟨#[]⟩, .slice none 0 0] nil3 26 42 26)
 have CZ := hide (fun W (h1 : Rd W (.slice none 0 0) []) => leaves_calls 5 (k : Int) ⟨#[]⟩ _ [] true W h1 ⟨fun _ => .inr (.inr (.inr ⟨.inl rfl, rfl, rfl⟩)), fun _ => rfl⟩)
 obtain ⟨⟨hn1, hn2⟩, hl2, hl3, h28, hh28, _⟩ := gk
 obtain ⟨n, hn⟩ : ∃ n, n = P.length := ⟨_, rfl⟩
 have LP : Hid (P.length = n) := hn.symm
 have LH : Hid (H.length = n) := hl2.trans hn.symm
 have LB : Hid (B.length = n) := hl3.trans hn.symm
 have H28 := hide h28
 have HH28 : Hid (∀ i, i < H.length → (H.getD i ⟨#[]⟩).size ≤ 28) := fun i hi => hh28 i (by rw [← hl2]; exact hi)
 have nn : 0 < n ∧ n ≤ 24 := ⟨by omega, by omega⟩
 have HKN : Hid (k < n) := by show _ < _; rw [hn]; exact hk
 clear hp hh hb hn1 hn2 hl2 hl3 h28 hh28 hn hk
 go_enter Tryz.func11, Tryz.ntmps11
 go_wp2_with fail
 refine (C.out _ (RP.out.below A0.out.below) (RH.out.below A0.out.below) (RB.out.below A0.out.below)).mono ?_
 rintro e w1 ⟨rfl, q⟩
 have A1 := hide (A0.out.step q)
 clear q A0 C
 obtain ⟨y0, y1, y2, y3⟩ := (A1.out.atBox 1 rfl).c4
 go_wp2_with fail
 refine (CZ.out _ (RV.out.below A1.out.below)).mono ?_
 rintro e w2 ⟨rfl, q⟩
 have A2 := hide (A1.out.step q)
 clear q A1 y0 y1 y2 y3 CZ
 obtain ⟨c0, c1, c2⟩ := (A2.out.atBox 2 rfl).c3
 go_wp2_with fail
 refine (copyDisk_calls p h b P H B _ (RP.out.below A2.out.below) (RH.out.below A2.out.below) (RB.out.below A2.out.below) (by rw [LP.out]; exact nn) (by rw [LH.out]; exact nn) (by rw [LB.out]; exact nn) H28.out HH28.out).mono ?_
 rintro e w3 ⟨p2, h2, b2, rfl, d, q⟩
 obtain ⟨ap2, cp2, ah2, ch2, ab2, cb2, rfl, rfl, rfl⟩ := d.sl
 have lt2 := q.size
 have A3 := hide ((A2.out.add q (TDsk.st _ _ _ _ _ _) d).box #[.slice ap2 P.length cp2, .slice ah2 H.length ch2, .slice ab2 B.length cb2] 26)
 have hlt := (A2.out.atBox 0 rfl).lt
 clear q d A2 c0 c1 c2
 obtain ⟨lo, hi, d2, lw, hw, put⟩ := A3.out.open 1 rfl
 have D2 : Hid (DskV _ lo hi _ _ _ P H B) := d2
 have PUT := hide put
 clear d2 put
 obtain ⟨y0, y1, y2, y3⟩ := (A3.out.atBox 3 rfl).c4
 go_wp2_with fail
 refine (doStep_5 _ _ _ _ P H B [] lo hi n k _ D2.out hw LP.out LH.out LB.out nn (fun w' hc => RV.out.below (A3.out.below.trans (hc.below lw A3.out.below.size))) HKN.out).mono ?_
 rintro e w4 ⟨rfl, d3, c3⟩
 have A4 := hide (PUT.out w4 (TDsk _ _ _ _ _ _) (TDsk.st _ _ _ _ _ _) (d3 rfl) c3)
 clear d3 c3 A3 D2 PUT lw hw y0 y1 y2 y3
 have xr := A4.out.atBox 2 rfl
 obtain ⟨d0, d1, d2⟩ := xr.c3
 have g0 := xr.frozen 0
 have g1 := xr.frozen 1
 have g2 := xr.frozen 2
 obtain ⟨c0, c1, c2⟩ := (A4.out.atBox 0 rfl).c3
 have A5 := hide (A4.out.store3 2 rfl (.slice ap2 P.length cp2) (.slice ah2 H.length ch2) (.slice ab2 B.length cb2))
 clear xr
 go_wp2
 exact bodyPost_ret (res_dsk2 rfl _ _ (w.heap.size + 1 + 1) _ _ _ (0, 0) rfl (A5.out.atBox 2 rfl)) rfl ⟨_, _, _, rfl, A5.out.wide 1 rfl, A5.out.below⟩
theorem sameInts_quiet (v1 v2 : Value) (xs : List Int) (w : World) (h1 : Rd w v1 xs) (h2 : Rd w v2 xs) :
    Calls Tryz.prog 16 #[v1, v2] w fun e w' => e = .returned (.bool true) ∧ ∃ n, w' = w.drewN n := by
 obtain ⟨a1, c1, rfl, _, m1, k1⟩ := h1
 obtain ⟨a2, c2, rfl, _, _, k2⟩ := h2
 have hm : xs.length ≤ maxLen := by omega
 unfold maxLen at hm
 have K := hide k1
 have L := hide k2
 clear k1 k2 m1
 go_enter Tryz.func16, Tryz.ntmps16
 go_wp2
 go_loopw [13] (fun vi wr => ∃ k n : Nat, k ≤ xs.length ∧ vi = .int .i64 k ∧ wr = w.drewN n) (fun vi _ => xs.length - (intOf vi).toNat)
 case atStart => exact ⟨0, 0, Nat.zero_le _, rfl, rfl⟩
 case round =>
  obtain ⟨k, n, hk, rfl, rfl⟩ := hrel
  by_cases hlt : k < xs.length
  ·rcases K.out with h3 | ⟨b, off, rfl, hbs, hc⟩
   ·subst h3; simp at hlt
   rcases L.out with h3 | ⟨b', off', rfl, hbs', hc'⟩
   ·subst h3; simp at hlt
   have e1 : w.cell? ⟨b, off + k, none⟩ = some (.int .i64 (xs.getD k 0)) := hc k hlt
   have e2 : w.cell? ⟨b', off' + k, none⟩ = some (.int .i64 (xs.getD k 0)) := hc' k hlt
   have hlt' : (k : Int) < (xs.length : Int) := by omega
   clear hc hc'
   go_wp2
   go_quiet (fail)
   go_wp2
   go_roundw
   case rel => exact ⟨k + 1, _, by omega, by go_num, rfl⟩
   case measure => simp [intOf]; omega
  ·obtain rfl : k = xs.length := by omega
   go_wp2
   go_ret
   exact ⟨rfl, _, rfl⟩
theorem sameInts_same (v1 v2 : Value) (xs : List Int) (w : World) (h1 : Rd w v1 xs) (h2 : Rd w v2 xs) :
    Calls Tryz.prog 16 #[v1, v2] w fun e w' => e = .returned (.bool true) ∧ Below w.heap.size w w' :=
 (sameInts_quiet v1 v2 xs w h1 h2).mono (fun _ _ ⟨h, n, hn⟩ => ⟨h, hn ▸ below_drewN' n⟩)
end Go.Proofs.YthdbacihhmilbaaGreatDoor
