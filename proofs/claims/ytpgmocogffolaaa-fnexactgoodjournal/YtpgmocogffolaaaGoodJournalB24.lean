/-
  A journal's writes, by the model: l15Write, l15Put, NewJournal, call by call. Each contract says what it asks.
-/
import Derived.Test.YtpgmocogffolaaaGoodJournalB21
import Derived.Test.YtpgmocogffolaaaGoodJournalB23
namespace Go.Proofs.Ytpgmocogffolaaa
open Go.RowKit
set_option linter.unusedVariables false
set_option linter.unusedSimpArgs false

set_option maxRecDepth 100000 in
theorem l7StepW_calls (p h b : Value) (P H : List ByteArray) (B : List Bool) (k : Nat) (T : ByteArray) (lo hi n : Nat) (w : World) (d : DskV w lo hi p h b P H B) (hhi : hi ≤ w.heap.size) (hP : P.length = n) (hH : H.length = n) (hB : B.length = n) (hn : 0 < n ∧ n ≤ 24) (hk : k < n) (hT : 1 ≤ T.size ∧ T.size ≤ 28) (nb : B.getD k false = false) (h28 : ∀ i, i < P.length → (P.getD i ⟨#[]⟩).size ≤ 28) :
    Calls Try.prog 98 #[.agg #[p, h, b], .agg #[.int .i64 1, .int .i64 (k : Int), .string T, .slice none 0 0]] w fun e w' => e = .returned (.tuple #[.agg #[p, h, b], .bool true]) ∧ DskV w' lo hi p h b P (H.set k T) B ∧ Chg lo hi w w' := by
  refine (l7Step_calls p h b (.slice none 0 0) P H B 1 (k : Int) T [] lo hi n true w d hhi hP hH hB hn (fun w' _ => rd_nilJ w') ⟨fun _ => .inl ⟨rfl, rfl, ⟨by omega, by omega⟩, by simpa using nb, hT.1, hT.2⟩, fun _ => rfl⟩ (by omega) h28).mono ?_
  rintro e w' ⟨rfl, sp, c⟩
  refine ⟨rfl, ?_, c⟩
  have := sp rfl
  simpa [stP, stH, stB] using this
/-- Where l15Write stands. -/
structure Wj (w u : World) (lo hi : Nat) (p h b : Value) (P H : List ByteArray) (B : List Bool) : Prop where
  arg : BoxAt u w.heap.size #[p, h, b] 30
  res : BoxAt u (w.heap.size + 1) nil3 30
  dsk : DskV u lo hi p h b P H B
  chg : Chg lo hi w u
  sz : w.heap.size + 2 ≤ u.heap.size
  hh : hi ≤ w.heap.size
section
variable {w u u1 : World} {lo hi : Nat} {p h b : Value} {P H H' : List ByteArray} {B : List Bool}
theorem Wj.top (d : Wj w u lo hi p h b P H B) : hi ≤ u.heap.size := Nat.le_trans d.hh (by have := d.sz; omega)
theorem Wj.below (d : Wj w u lo hi p h b P H B) (hb : Below u.heap.size u u1) : Wj w u1 lo hi p h b P H B :=
  ⟨d.arg.below hb, d.res.below hb, d.dsk.below hb, d.chg.trans (Chg.ofBelow hb), Nat.le_trans d.sz hb.size, d.hh⟩
theorem Wj.step (d : Wj w u lo hi p h b P H B) (dd : DskV u1 lo hi p h b P H' B) (c : Chg lo hi u u1) : Wj w u1 lo hi p h b P H' B :=
  ⟨d.arg.chg c (.inr d.hh), d.res.chg c (.inr (by have := d.hh; omega)), dd, d.chg.trans c, Nat.le_trans d.sz c.size, d.hh⟩
theorem Wj.store {g : Nat} (d : Wj w u lo hi p h b P H B) (hg : w.heap.size + 2 ≤ g) (v0 v1 v2 : Value) : Wj w (((u.setCell ⟨g, 0, none⟩ v0).setCell ⟨g, 1, none⟩ v1).setCell ⟨g, 2, none⟩ v2) lo hi p h b P H B := by
  have c := Chg.store3 (lo := g) (hi := g + 1) u g v0 v1 v2 (Nat.le_refl _) (by omega)
  have hh := d.hh
  exact ⟨d.arg.chg c (by omega), d.res.chg c (by omega), d.dsk.chg c (by omega), chg_new d.chg c (by omega), Nat.le_trans d.sz c.size, d.hh⟩
theorem newBox (d : Wj w u lo hi p h b P H B) : ∃ g11 : Nat, g11 = u.heap.size ∧ Hid (w.heap.size + 2 ≤ g11) ∧ Hid (BoxAt (u.alloc (.cells nil3 30)) g11 nil3 30) :=
  ⟨_, rfl, d.sz, BoxAt.new u nil3 30⟩
end

set_option maxRecDepth 100000 in
set_option maxHeartbeats 3200000 in
theorem l15Write_calls (p h b : Value) (P H : List ByteArray) (B : List Bool) (K E : Int) (k : Nat) (T : ByteArray) (lo hi n : Nat) (w : World) (d : DskV w lo hi p h b P H B) (hhi : hi ≤ w.heap.size) (hP : P.length = n) (hH : H.length = n) (hB : B.length = n) (hn : 0 < n ∧ n ≤ 24) (hk : k < n) (hg : goodF K (k : Int) E T.size) (nb : B.getD k false = false) (h28 : ∀ i, i < P.length → (P.getD i ⟨#[]⟩).size ≤ 28) :
    Calls Try.prog 84 #[.agg #[p, h, b], .int .i64 K, .int .i64 (k : Int), .int .i64 E, .string T] w fun e w' => e = .returned (.agg #[p, h, b]) ∧ DskV w' lo hi p h b P (H.set k (frR K (k : Int) E T).1) B ∧ Chg lo hi w w' := by
  obtain ⟨ap, cp, ah, ch, ab, cb, rfl, rfl, rfl⟩ := d.sl
  have A0 := Hand.twoR w #[.slice ap P.length cp, .slice ah H.length ch, .slice ab B.length cb] nil3 30 30
  have W0 : Hid (Wj w ((w.alloc (.cells #[.slice ap P.length cp, .slice ah H.length ch, .slice ab B.length cb] 30)).alloc (.cells nil3 30)) lo hi (.slice ap P.length cp) (.slice ah H.length ch) (.slice ab B.length cb) P H B) :=
    ⟨A0.atBox 1 rfl, A0.atBox 0 rfl, d.below A0.below, Chg.ofBelow A0.below, by simp, hhi⟩
  obtain ⟨f1, f2⟩ := frR_yes hg
  have fe : (frR K (k : Int) E T).1 = ofN (frB K.toNat (k : Int).toNat E.toNat (bs T)) := by
    have : frR K (k : Int) E T = (ofN (frB K.toNat (k : Int).toNat E.toNat (bs T)), true) := if_pos hg
    rw [this]
  obtain ⟨⟨⟨k0, k1⟩, a0, a1⟩, ⟨e0, e1⟩, hT⟩ := hg
  obtain ⟨K', rfl⟩ := Int.eq_ofNat_of_zero_le (show 0 ≤ K by omega)
  obtain ⟨E', rfl⟩ := Int.eq_ofNat_of_zero_le e0
  simp only [Int.toNat_natCast] at fe
  have LF := hide (fun W => l6Frame_calls K' k E' T W (by omega) (by omega) (by omega) hT)
  rw [← fe] at LF
  have LS := hide (fun W dd q => l7StepW_calls (.slice ap P.length cp) (.slice ah H.length ch) (.slice ab B.length cb) P H B k (frR (K' : Int) (k : Int) (E' : Int) T).1 lo hi n W dd q hP hH hB hn hk (by omega) nb h28)
  generalize (frR (K' : Int) (k : Int) (E' : Int) T).1 = s at LF LS ⊢
  have PL : Hid (H.length = (H.set k s).length) := by show _ = _; rw [List.length_set]
  clear A0 d hhi hP hH hB hn hk nb h28 f1 f2 fe k0 k1 a0 a1 e0 e1 hT
  go_enter Try.func84, Try.ntmps84
  go_upto_region 1 with fail
  go_cut [11, 12] (fun s11 s12 wx => ∃ g11 : Nat, s11 = .pointer (some ⟨g11, 0, none⟩) ∧ BoxAt wx g11 #[.slice ap P.length cp, .slice ah H.length ch, .slice ab B.length cb] 30 ∧ w.heap.size + 2 ≤ g11 ∧ Wj w wx lo hi (.slice ap P.length cp) (.slice ah H.length ch) (.slice ab B.length cb) P (H.set k s) B)
  case first =>
    refine wp_region_noPanic ?_
    refine wp_region_held_drew (S := (fun w' => w'.cell? ⟨w.heap.size, 0, none⟩ = some (.slice ap P.length cp) ∧ w'.cell? ⟨w.heap.size, 1, none⟩ = some (.slice ah H.length ch) ∧ w'.cell? ⟨w.heap.size, 2, none⟩ = some (.slice ab B.length cb))) (by kernel_rfl) ((W0.out.below (Below.refl _ _).drew).arg.c3) (fun hHeld => ?_)
    have J0 := hide (W0.out.below (Below.refl _ _).drew)
    clear W0
    generalize World.drew _ = u0 at *
    refine wpAnyH_take (i := 0) (v := ?v1) rfl (by kernel_rfl) (by kernel_rfl) (by kernel_rfl) (fun _ _ _ h => h) (Or.inl ⟨by rfl, ?hy1⟩) (by assumption) ?rest1
    case hy1 => (intro w' hSw; dsimp only [List.getElem_toArray, List.getElem_cons_zero, List.getElem_cons_succ] at hSw ⊢; go_simp; try (with_reducible rfl))
    try simp only [Act.put, List.getElem_toArray, List.getElem_cons_zero, List.getElem_cons_succ, List.setIfInBounds_toArray, List.set_cons_zero, List.set_cons_succ]
    refine wpAnyH_take (i := 1) (v := ?v2) rfl (by kernel_rfl) (by kernel_rfl) (by kernel_rfl) (fun _ _ _ h => h) (Or.inl ⟨by rfl, ?hy2⟩) (by assumption) ?rest2
    case hy2 => (intro w' hSw; dsimp only [List.getElem_toArray, List.getElem_cons_zero, List.getElem_cons_succ] at hSw ⊢; go_simp; try (with_reducible rfl))
    try simp only [Act.put, List.getElem_toArray, List.getElem_cons_zero, List.getElem_cons_succ, List.setIfInBounds_toArray, List.set_cons_zero, List.set_cons_succ]
    refine wpAnyH_take (i := 2) (v := ?v3) rfl (by kernel_rfl) (by kernel_rfl) (by kernel_rfl) (fun _ _ _ h => h) (Or.inl ⟨by rfl, ?hy3⟩) (by assumption) ?rest3
    case hy3 => (intro w' hSw; dsimp only [List.getElem_toArray, List.getElem_cons_zero, List.getElem_cons_succ] at hSw ⊢; go_simp; try (with_reducible rfl))
    try simp only [Act.put, List.getElem_toArray, List.getElem_cons_zero, List.getElem_cons_succ, List.setIfInBounds_toArray, List.set_cons_zero, List.set_cons_succ]
    refine wpAnyH_take (i := 3) (v := ?v4) rfl (by kernel_rfl) (by kernel_rfl) (by kernel_rfl) (fun _ _ _ h => h) (Or.inl ⟨by rfl, ?hy4⟩) (by assumption) ?rest4
    case hy4 => (intro w' hSw; dsimp only [List.getElem_toArray, List.getElem_cons_zero, List.getElem_cons_succ] at hSw ⊢; go_simp; try (with_reducible rfl))
    try simp only [Act.put, List.getElem_toArray, List.getElem_cons_zero, List.getElem_cons_succ, List.setIfInBounds_toArray, List.set_cons_zero, List.set_cons_succ]
    refine wpAnyH_take (i := 4) (v := ?v5) rfl (by kernel_rfl) (by kernel_rfl) (by kernel_rfl) (fun _ _ _ h => h) (Or.inl ⟨by rfl, ?hy5⟩) (by assumption) ?rest5
    case hy5 => (intro w' hSw; dsimp only [List.getElem_toArray, List.getElem_cons_zero, List.getElem_cons_succ] at hSw ⊢; go_simp; try (with_reducible rfl))
    try simp only [Act.put, List.getElem_toArray, List.getElem_cons_zero, List.getElem_cons_succ, List.setIfInBounds_toArray, List.set_cons_zero, List.set_cons_succ]
    refine wpAnyH_take (i := 5) (v := ?v6) rfl (by kernel_rfl) (by kernel_rfl) (by kernel_rfl) (fun _ _ _ h => h) (Or.inl ⟨by rfl, ?hy6⟩) (by assumption) ?rest6
    case hy6 => (intro w' hSw; dsimp only [List.getElem_toArray, List.getElem_cons_zero, List.getElem_cons_succ] at hSw ⊢; go_simp; try (with_reducible rfl))
    try simp only [Act.put, List.getElem_toArray, List.getElem_cons_zero, List.getElem_cons_succ, List.setIfInBounds_toArray, List.set_cons_zero, List.set_cons_succ]
    refine wpAnyH_take (i := 6) (v := ?v7) rfl (by kernel_rfl) (by kernel_rfl) (by kernel_rfl) (fun _ _ _ h => h) (Or.inl ⟨by rfl, ?hy7⟩) (by assumption) ?rest7
    case hy7 => (intro w' hSw; dsimp only [List.getElem_toArray, List.getElem_cons_zero, List.getElem_cons_succ] at hSw ⊢; go_simp; try (with_reducible rfl))
    try simp only [Act.put, List.getElem_toArray, List.getElem_cons_zero, List.getElem_cons_succ, List.setIfInBounds_toArray, List.set_cons_zero, List.set_cons_succ]
    refine wpAnyH_ready (rs := [7, 13]) (by kernel_rfl) (by simp) ?_
    refine (AllReadyH.cons rfl (fun KK hK => ?_) (AllReadyH.cons rfl (fun KK hK => ?_) AllReadyH.nil))
    · dsimp only [List.getElem_toArray, List.getElem_cons_zero, List.getElem_cons_succ]
      go_simp
      refine (LF.out _).mono ?_
      rintro e' u1 ⟨rfl, b1⟩
      have J1_ := hide (J0.out.below b1)
      clear b1 hHeld J0
      refine hK.out _ _ (J1_.out.arg.c3) (fun hHeld => ?_)
      clear hK KK
      try simp only [Act.put, List.getElem_toArray, List.getElem_cons_zero, List.getElem_cons_succ, List.setIfInBounds_toArray, List.set_cons_zero, List.set_cons_succ]
      refine wpAnyH_take (i := 8) (v := ?v8) rfl (by kernel_rfl) (by kernel_rfl) (by kernel_rfl) (fun _ _ _ h => h) (Or.inl ⟨by rfl, ?hy8⟩) (by assumption) ?rest8
      case hy8 => (intro w' hSw; dsimp only [List.getElem_toArray, List.getElem_cons_zero, List.getElem_cons_succ] at hSw ⊢; go_simp; try (with_reducible rfl))
      try simp only [Act.put, List.getElem_toArray, List.getElem_cons_zero, List.getElem_cons_succ, List.setIfInBounds_toArray, List.set_cons_zero, List.set_cons_succ]
      refine wpAnyH_ready (rs := [9, 13]) (by kernel_rfl) (by simp) ?_
      refine (AllReadyH.cons rfl (fun KK hK => ?_) (AllReadyH.cons rfl (fun KK hK => ?_) AllReadyH.nil))
      · dsimp only [List.getElem_toArray, List.getElem_cons_zero, List.getElem_cons_succ]
        go_simp
        refine (LS.out _ J1_.out.dsk J1_.out.top).mono ?_
        rintro e' u2 ⟨rfl, d2, c2⟩
        have J2_ := hide (J1_.out.step d2 c2)
        clear d2 c2 hHeld J1_
        refine hK.out _ _ (J2_.out.arg.c3) (fun hHeld => ?_)
        clear hK KK
        try simp only [Act.put, List.getElem_toArray, List.getElem_cons_zero, List.getElem_cons_succ, List.setIfInBounds_toArray, List.set_cons_zero, List.set_cons_succ]
        refine wpAnyH_take (i := 10) (v := ?v9) rfl (by kernel_rfl) (by kernel_rfl) (by kernel_rfl) (fun _ _ _ h => h) (Or.inl ⟨by rfl, ?hy9⟩) (by assumption) ?rest9
        case hy9 => (intro w' hSw; dsimp only [List.getElem_toArray, List.getElem_cons_zero, List.getElem_cons_succ] at hSw ⊢; go_simp; try (with_reducible rfl))
        try simp only [Act.put, List.getElem_toArray, List.getElem_cons_zero, List.getElem_cons_succ, List.setIfInBounds_toArray, List.set_cons_zero, List.set_cons_succ]
        refine wpAnyH_take (i := 11) (v := ?v10) rfl (by kernel_rfl) (by kernel_rfl) (by kernel_rfl) (fun _ _ _ h => h) (Or.inl ⟨by rfl, ?hy10⟩) (by assumption) ?rest10
        case hy10 => (intro w' hSw; dsimp only [List.getElem_toArray, List.getElem_cons_zero, List.getElem_cons_succ] at hSw ⊢; go_simp; try (with_reducible rfl))
        try simp only [Act.put, List.getElem_toArray, List.getElem_cons_zero, List.getElem_cons_succ, List.setIfInBounds_toArray, List.set_cons_zero, List.set_cons_succ]
        refine wpAnyH_take (i := 12) (v := ?v11) rfl (by kernel_rfl) (by kernel_rfl) (by kernel_rfl) (fun _ _ _ h => h) (Or.inl ⟨by rfl, ?hy11⟩) (by assumption) ?rest11
        case hy11 => (intro w' hSw; dsimp only [List.getElem_toArray, List.getElem_cons_zero, List.getElem_cons_succ] at hSw ⊢; go_simp; try (with_reducible rfl))
        try simp only [Act.put, List.getElem_toArray, List.getElem_cons_zero, List.getElem_cons_succ, List.setIfInBounds_toArray, List.set_cons_zero, List.set_cons_succ]
        refine wpAnyH_ready (rs := [13]) (by kernel_rfl) (by simp) ?_
        refine (AllReadyH.cons rfl (fun KK hK => ?_) AllReadyH.nil)
        dsimp only [List.getElem_toArray, List.getElem_cons_zero, List.getElem_cons_succ]
        go_simp
        obtain ⟨g11, hg11, GL, J3_x⟩ := newBox J2_.out
        rw [← hg11]
        have J3_ := hide (J2_.out.below (below_box _ (.cells nil3 30)))
        clear hHeld hg11 J2_
        generalize World.alloc _ (.cells nil3 30) = u4 at *
        refine hK.out _ _ (J3_.out.arg.c3) (fun hHeld => ?_)
        clear hK KK
        try simp only [Act.put, List.getElem_toArray, List.getElem_cons_zero, List.getElem_cons_succ, List.setIfInBounds_toArray, List.set_cons_zero, List.set_cons_succ]
        refine wpAnyH_ready (rs := [14]) (by kernel_rfl) (by simp) ?_
        refine (AllReadyH.cons rfl (fun KK hK => ?_) AllReadyH.nil)
        obtain ⟨z0, z1, z2⟩ := J3_x.out.c3
        have y0 := J3_x.out.frozen 0
        have y1 := J3_x.out.frozen 1
        have y2 := J3_x.out.frozen 2
        dsimp only [List.getElem_toArray, List.getElem_cons_zero, List.getElem_cons_succ]
        go_simp
        clear z0 z1 z2 y0 y1 y2
        have J4_x := hide (J3_x.out.store3 (.slice ap P.length cp) (.slice ah H.length ch) (.slice ab B.length cb))
        have J4_ := hide (J3_.out.store GL.out (.slice ap P.length cp) (.slice ah H.length ch) (.slice ab B.length cb))
        clear hHeld J3_ J3_x
        refine hK.out _ _ (J4_.out.arg.c3) (fun hHeld => ?_)
        clear hK KK
        try simp only [Act.put, List.getElem_toArray, List.getElem_cons_zero, List.getElem_cons_succ, List.setIfInBounds_toArray, List.set_cons_zero, List.set_cons_succ]
        refine wpAnyH_ready (rs := [15]) (by kernel_rfl) (by simp) ?_
        refine AllReadyH.cons rfl (fun KK hK => ?_) AllReadyH.nil
        dsimp only [List.getElem_toArray, List.getElem_cons_zero, List.getElem_cons_succ]
        go_simp
        refine hK.out _ _ (J4_.out.arg.c3) (fun hHeld => ?_)
        clear hK KK
        try simp only [Act.put, List.getElem_toArray, List.getElem_cons_zero, List.getElem_cons_succ, List.setIfInBounds_toArray, List.set_cons_zero, List.set_cons_succ]
        refine wpAnyH_done (by kernel_rfl) ?_ _
        refine NoPanic.normal ?_
        clear hHeld
        go_wp2_with fail
        go_meet
        exact ⟨_, rfl, J4_x.out, GL.out, J4_.out⟩
      · dsimp only [List.getElem_toArray, List.getElem_cons_zero, List.getElem_cons_succ]
        go_simp
        obtain ⟨g11, hg11, GL, J5_x⟩ := newBox J1_.out
        rw [← hg11]
        have J5_ := hide (J1_.out.below (below_box _ (.cells nil3 30)))
        clear hHeld hg11 J1_
        generalize World.alloc _ (.cells nil3 30) = u4 at *
        refine hK.out _ _ (J5_.out.arg.c3) (fun hHeld => ?_)
        clear hK KK
        try simp only [Act.put, List.getElem_toArray, List.getElem_cons_zero, List.getElem_cons_succ, List.setIfInBounds_toArray, List.set_cons_zero, List.set_cons_succ]
        refine wpAnyH_ready (rs := [9]) (by kernel_rfl) (by simp) ?_
        refine (AllReadyH.cons rfl (fun KK hK => ?_) AllReadyH.nil)
        dsimp only [List.getElem_toArray, List.getElem_cons_zero, List.getElem_cons_succ]
        go_simp
        refine (LS.out _ J5_.out.dsk J5_.out.top).mono ?_
        rintro e' u2 ⟨rfl, d2, c2⟩
        have J6_ := hide (J5_.out.step d2 c2)
        have hgJ6_ : w.heap.size + 2 ≤ g11 := GL.out
        have J6_x := hide (J5_x.out.chg c2 (.inr (by have := J5_.out.hh; omega)))
        clear hgJ6_
        clear d2 c2 hHeld J5_ J5_x
        refine hK.out _ _ (J6_.out.arg.c3) (fun hHeld => ?_)
        clear hK KK
        try simp only [Act.put, List.getElem_toArray, List.getElem_cons_zero, List.getElem_cons_succ, List.setIfInBounds_toArray, List.set_cons_zero, List.set_cons_succ]
        refine wpAnyH_take (i := 10) (v := ?v12) rfl (by kernel_rfl) (by kernel_rfl) (by kernel_rfl) (fun _ _ _ h => h) (Or.inl ⟨by rfl, ?hy12⟩) (by assumption) ?rest12
        case hy12 => (intro w' hSw; dsimp only [List.getElem_toArray, List.getElem_cons_zero, List.getElem_cons_succ] at hSw ⊢; go_simp; try (with_reducible rfl))
        try simp only [Act.put, List.getElem_toArray, List.getElem_cons_zero, List.getElem_cons_succ, List.setIfInBounds_toArray, List.set_cons_zero, List.set_cons_succ]
        refine wpAnyH_take (i := 11) (v := ?v13) rfl (by kernel_rfl) (by kernel_rfl) (by kernel_rfl) (fun _ _ _ h => h) (Or.inl ⟨by rfl, ?hy13⟩) (by assumption) ?rest13
        case hy13 => (intro w' hSw; dsimp only [List.getElem_toArray, List.getElem_cons_zero, List.getElem_cons_succ] at hSw ⊢; go_simp; try (with_reducible rfl))
        try simp only [Act.put, List.getElem_toArray, List.getElem_cons_zero, List.getElem_cons_succ, List.setIfInBounds_toArray, List.set_cons_zero, List.set_cons_succ]
        refine wpAnyH_take (i := 12) (v := ?v14) rfl (by kernel_rfl) (by kernel_rfl) (by kernel_rfl) (fun _ _ _ h => h) (Or.inl ⟨by rfl, ?hy14⟩) (by assumption) ?rest14
        case hy14 => (intro w' hSw; dsimp only [List.getElem_toArray, List.getElem_cons_zero, List.getElem_cons_succ] at hSw ⊢; go_simp; try (with_reducible rfl))
        try simp only [Act.put, List.getElem_toArray, List.getElem_cons_zero, List.getElem_cons_succ, List.setIfInBounds_toArray, List.set_cons_zero, List.set_cons_succ]
        refine wpAnyH_ready (rs := [14]) (by kernel_rfl) (by simp) ?_
        refine (AllReadyH.cons rfl (fun KK hK => ?_) AllReadyH.nil)
        obtain ⟨z0, z1, z2⟩ := J6_x.out.c3
        have y0 := J6_x.out.frozen 0
        have y1 := J6_x.out.frozen 1
        have y2 := J6_x.out.frozen 2
        dsimp only [List.getElem_toArray, List.getElem_cons_zero, List.getElem_cons_succ]
        go_simp
        clear z0 z1 z2 y0 y1 y2
        have J7_x := hide (J6_x.out.store3 (.slice ap P.length cp) (.slice ah H.length ch) (.slice ab B.length cb))
        have J7_ := hide (J6_.out.store GL.out (.slice ap P.length cp) (.slice ah H.length ch) (.slice ab B.length cb))
        clear hHeld J6_ J6_x
        refine hK.out _ _ (J7_.out.arg.c3) (fun hHeld => ?_)
        clear hK KK
        try simp only [Act.put, List.getElem_toArray, List.getElem_cons_zero, List.getElem_cons_succ, List.setIfInBounds_toArray, List.set_cons_zero, List.set_cons_succ]
        refine wpAnyH_ready (rs := [15]) (by kernel_rfl) (by simp) ?_
        refine AllReadyH.cons rfl (fun KK hK => ?_) AllReadyH.nil
        dsimp only [List.getElem_toArray, List.getElem_cons_zero, List.getElem_cons_succ]
        go_simp
        refine hK.out _ _ (J7_.out.arg.c3) (fun hHeld => ?_)
        clear hK KK
        try simp only [Act.put, List.getElem_toArray, List.getElem_cons_zero, List.getElem_cons_succ, List.setIfInBounds_toArray, List.set_cons_zero, List.set_cons_succ]
        refine wpAnyH_done (by kernel_rfl) ?_ _
        refine NoPanic.normal ?_
        clear hHeld
        go_wp2_with fail
        go_meet
        exact ⟨_, rfl, J7_x.out, GL.out, J7_.out⟩
    · dsimp only [List.getElem_toArray, List.getElem_cons_zero, List.getElem_cons_succ]
      go_simp
      obtain ⟨g11, hg11, GL, J8_x⟩ := newBox J0.out
      rw [← hg11]
      have J8_ := hide (J0.out.below (below_box _ (.cells nil3 30)))
      clear hHeld hg11 J0
      generalize World.alloc _ (.cells nil3 30) = u4 at *
      refine hK.out _ _ (J8_.out.arg.c3) (fun hHeld => ?_)
      clear hK KK
      try simp only [Act.put, List.getElem_toArray, List.getElem_cons_zero, List.getElem_cons_succ, List.setIfInBounds_toArray, List.set_cons_zero, List.set_cons_succ]
      refine wpAnyH_ready (rs := [7]) (by kernel_rfl) (by simp) ?_
      refine (AllReadyH.cons rfl (fun KK hK => ?_) AllReadyH.nil)
      dsimp only [List.getElem_toArray, List.getElem_cons_zero, List.getElem_cons_succ]
      go_simp
      refine (LF.out _).mono ?_
      rintro e' u1 ⟨rfl, b1⟩
      have J9_ := hide (J8_.out.below b1)
      have J9_x := hide (J8_x.out.below b1)
      clear b1 hHeld J8_ J8_x
      refine hK.out _ _ (J9_.out.arg.c3) (fun hHeld => ?_)
      clear hK KK
      try simp only [Act.put, List.getElem_toArray, List.getElem_cons_zero, List.getElem_cons_succ, List.setIfInBounds_toArray, List.set_cons_zero, List.set_cons_succ]
      refine wpAnyH_take (i := 8) (v := ?v15) rfl (by kernel_rfl) (by kernel_rfl) (by kernel_rfl) (fun _ _ _ h => h) (Or.inl ⟨by rfl, ?hy15⟩) (by assumption) ?rest15
      case hy15 => (intro w' hSw; dsimp only [List.getElem_toArray, List.getElem_cons_zero, List.getElem_cons_succ] at hSw ⊢; go_simp; try (with_reducible rfl))
      try simp only [Act.put, List.getElem_toArray, List.getElem_cons_zero, List.getElem_cons_succ, List.setIfInBounds_toArray, List.set_cons_zero, List.set_cons_succ]
      refine wpAnyH_ready (rs := [9]) (by kernel_rfl) (by simp) ?_
      refine (AllReadyH.cons rfl (fun KK hK => ?_) AllReadyH.nil)
      dsimp only [List.getElem_toArray, List.getElem_cons_zero, List.getElem_cons_succ]
      go_simp
      refine (LS.out _ J9_.out.dsk J9_.out.top).mono ?_
      rintro e' u2 ⟨rfl, d2, c2⟩
      have J10_ := hide (J9_.out.step d2 c2)
      have hgJ10_ : w.heap.size + 2 ≤ g11 := GL.out
      have J10_x := hide (J9_x.out.chg c2 (.inr (by have := J9_.out.hh; omega)))
      clear hgJ10_
      clear d2 c2 hHeld J9_ J9_x
      refine hK.out _ _ (J10_.out.arg.c3) (fun hHeld => ?_)
      clear hK KK
      try simp only [Act.put, List.getElem_toArray, List.getElem_cons_zero, List.getElem_cons_succ, List.setIfInBounds_toArray, List.set_cons_zero, List.set_cons_succ]
      refine wpAnyH_take (i := 10) (v := ?v16) rfl (by kernel_rfl) (by kernel_rfl) (by kernel_rfl) (fun _ _ _ h => h) (Or.inl ⟨by rfl, ?hy16⟩) (by assumption) ?rest16
      case hy16 => (intro w' hSw; dsimp only [List.getElem_toArray, List.getElem_cons_zero, List.getElem_cons_succ] at hSw ⊢; go_simp; try (with_reducible rfl))
      try simp only [Act.put, List.getElem_toArray, List.getElem_cons_zero, List.getElem_cons_succ, List.setIfInBounds_toArray, List.set_cons_zero, List.set_cons_succ]
      refine wpAnyH_take (i := 11) (v := ?v17) rfl (by kernel_rfl) (by kernel_rfl) (by kernel_rfl) (fun _ _ _ h => h) (Or.inl ⟨by rfl, ?hy17⟩) (by assumption) ?rest17
      case hy17 => (intro w' hSw; dsimp only [List.getElem_toArray, List.getElem_cons_zero, List.getElem_cons_succ] at hSw ⊢; go_simp; try (with_reducible rfl))
      try simp only [Act.put, List.getElem_toArray, List.getElem_cons_zero, List.getElem_cons_succ, List.setIfInBounds_toArray, List.set_cons_zero, List.set_cons_succ]
      refine wpAnyH_take (i := 12) (v := ?v18) rfl (by kernel_rfl) (by kernel_rfl) (by kernel_rfl) (fun _ _ _ h => h) (Or.inl ⟨by rfl, ?hy18⟩) (by assumption) ?rest18
      case hy18 => (intro w' hSw; dsimp only [List.getElem_toArray, List.getElem_cons_zero, List.getElem_cons_succ] at hSw ⊢; go_simp; try (with_reducible rfl))
      try simp only [Act.put, List.getElem_toArray, List.getElem_cons_zero, List.getElem_cons_succ, List.setIfInBounds_toArray, List.set_cons_zero, List.set_cons_succ]
      refine wpAnyH_ready (rs := [14]) (by kernel_rfl) (by simp) ?_
      refine (AllReadyH.cons rfl (fun KK hK => ?_) AllReadyH.nil)
      obtain ⟨z0, z1, z2⟩ := J10_x.out.c3
      have y0 := J10_x.out.frozen 0
      have y1 := J10_x.out.frozen 1
      have y2 := J10_x.out.frozen 2
      dsimp only [List.getElem_toArray, List.getElem_cons_zero, List.getElem_cons_succ]
      go_simp
      clear z0 z1 z2 y0 y1 y2
      have J11_x := hide (J10_x.out.store3 (.slice ap P.length cp) (.slice ah H.length ch) (.slice ab B.length cb))
      have J11_ := hide (J10_.out.store GL.out (.slice ap P.length cp) (.slice ah H.length ch) (.slice ab B.length cb))
      clear hHeld J10_ J10_x
      refine hK.out _ _ (J11_.out.arg.c3) (fun hHeld => ?_)
      clear hK KK
      try simp only [Act.put, List.getElem_toArray, List.getElem_cons_zero, List.getElem_cons_succ, List.setIfInBounds_toArray, List.set_cons_zero, List.set_cons_succ]
      refine wpAnyH_ready (rs := [15]) (by kernel_rfl) (by simp) ?_
      refine AllReadyH.cons rfl (fun KK hK => ?_) AllReadyH.nil
      dsimp only [List.getElem_toArray, List.getElem_cons_zero, List.getElem_cons_succ]
      go_simp
      refine hK.out _ _ (J11_.out.arg.c3) (fun hHeld => ?_)
      clear hK KK
      try simp only [Act.put, List.getElem_toArray, List.getElem_cons_zero, List.getElem_cons_succ, List.setIfInBounds_toArray, List.set_cons_zero, List.set_cons_succ]
      refine wpAnyH_done (by kernel_rfl) ?_ _
      refine NoPanic.normal ?_
      clear hHeld
      go_wp2_with fail
      go_meet
      exact ⟨_, rfl, J11_x.out, GL.out, J11_.out⟩
  case rest =>
    obtain ⟨g11, rfl, hX, hgl, hW⟩ := hcut
    have J := hide hW
    obtain ⟨x0, x1, x2⟩ := hX.c3
    obtain ⟨r0, r1, r2⟩ := hW.res.c3
    have f0 := hW.res.frozen 0
    have f1 := hW.res.frozen 1
    have f2 := hW.res.frozen 2
    have X9 := hide (hW.res.store3 (.slice ap P.length cp) (.slice ah H.length ch) (.slice ab B.length cb))
    have c9 := Chg.store3 (lo := w.heap.size + 1) (hi := w.heap.size + 2) wc (w.heap.size + 1) (.slice ap P.length cp) (.slice ah H.length ch) (.slice ab B.length cb) (Nat.le_refl _) (by omega)
    have D9 := hide (J.out.dsk.chg c9 (.inl (Nat.le_trans J.out.hh (by omega))))
    have C9 := hide (chg_new J.out.chg c9 (by omega))
    clear hX hW c9 J W0
    go_wp2
    exact bodyPost_ret (res_dsk rfl _ _ (w.heap.size + 1) _ _ _ (0, 0) rfl X9.out) rfl ⟨rfl, D9.out, C9.out⟩

theorem Wj.again {w u : World} {lo hi : Nat} {p h b : Value} {P H : List ByteArray} {B : List Bool} (d : Wj w u lo hi p h b P H B) : Wj w (((u.setCell ⟨w.heap.size, 0, none⟩ p).setCell ⟨w.heap.size, 1, none⟩ h).setCell ⟨w.heap.size, 2, none⟩ b) lo hi p h b P H B := by
  have c := Chg.store3 (lo := w.heap.size) (hi := w.heap.size + 1) u w.heap.size p h b (Nat.le_refl _) (by omega)
  have hh := d.hh
  exact ⟨d.arg.store3 p h b, d.res.chg c (by omega), d.dsk.chg c (by omega), chg_new d.chg c (by omega), Nat.le_trans d.sz c.size, d.hh⟩
set_option maxRecDepth 100000 in
set_option maxHeartbeats 3200000 in
theorem l15Put_calls (p h b v : Value) (P H : List ByteArray) (B : List Bool) (e : Int) (vs : List Int) (lo hi : Nat) (w : World) (d : DskV w lo hi p h b P H B) (hhi : hi ≤ w.heap.size) (hP : P.length = 5) (hH : H.length = 5) (hB : B.length = 5)
    (nb : ∀ i, B.getD i false = false) (h28 : ∀ i, i < P.length → (P.getD i ⟨#[]⟩).size ≤ 28) (hv : Rd w v vs) (he : 0 ≤ e ∧ e ≤ 60000) (hj : jsP vs) :
    Calls Try.prog 85 #[.agg #[p, h, b], .int .i64 e, v] w fun x w' => x = .returned (.agg #[p, h, b]) ∧ DskV w' lo hi p h b P (hhv H e vs) B ∧ Chg lo hi w w' := by
  obtain ⟨ap, cp, ah, ch, ab, cb, rfl, rfl, rfl⟩ := d.sl
  have A0 := Hand.twoR w #[.slice ap P.length cp, .slice ah H.length ch, .slice ab B.length cb] nil3 30 30
  have W0 : Hid (Wj w ((w.alloc (.cells #[.slice ap P.length cp, .slice ah H.length ch, .slice ab B.length cb] 30)).alloc (.cells nil3 30)) lo hi (.slice ap P.length cp) (.slice ah H.length ch) (.slice ab B.length cb) P H B) :=
    ⟨A0.atBox 1 rfl, A0.atBox 0 rfl, d.below A0.below, Chg.ofBelow A0.below, by simp, hhi⟩
  have R := hide (hv.below A0.below)
  have HO := hide (fun W => l15Half_calls e W he.1 he.2)
  have SB := hide (fun W q => l15Bytes_calls v vs W q hj)
  have TS := hide (jsT_size vs hj.2)
  have hl2 : (jsT vs).length = 2 := rfl
  have HL2 := hide hl2
  unfold hhv
  generalize jsT vs = ts at TS HL2 SB ⊢
  obtain ⟨hh, ehh, h13⟩ : ∃ hh : Nat, hlf e = (hh : Int) ∧ (hh = 1 ∨ hh = 3) := ⟨(hlf e).toNat, by have := hlf_in (e := e); omega, by have := hlf_in (e := e); omega⟩
  have HF := hide (fun (k : Nat) (hk : k < 2) W dd q => l15Write_calls (.slice ap P.length cp) (.slice ah H.length ch) (.slice ab B.length cb) P (hhk H e ts k) B 3 e (hh + k) (ts.getD k ⟨#[]⟩) lo hi 5 W dd q hP (by rw [hhk_len]; exact hH) hB ⟨by omega, by omega⟩ (by omega)
    ⟨⟨⟨by omega, by omega⟩, by omega, by omega⟩, he, by rw [getD_lenT HL2.out TS.out k hk]; decide⟩ (nb _) h28)
  have HK : Hid (∀ k, hhk H e ts (k + 1) = (hhk H e ts k).set (hh + k) (frR 3 ((hh + k : Nat) : Int) e (ts.getD k ⟨#[]⟩)).1) := by
    show ∀ k, _
    intro k
    rw [hhk, ehh]
    simp
  rw [ehh] at HO
  obtain ⟨av, cv, ev, _, _⟩ := hv.sl
  subst ev
  clear A0 d hv hl2 hP hH hB ehh nb h28 he hj
  go_enter Try.func85, Try.ntmps85
  go_wp2_with fail
  refine (HO.out _).mono ?_
  rintro x w1 ⟨rfl, rfl⟩
  go_wp2_with fail
  refine (SB.out _ R.out).mono ?_
  rintro x w2 ⟨v2, rfl, o2, b2⟩
  have J2 := hide (W0.out.below b2)
  have O2 := hide (OwnT.mono o2 (show w.heap.size ≤ _ by simp; omega))
  obtain ⟨a2, c2, rfl⟩ := own_slice o2
  have TT := hide (row_top o2)
  have SMx : Hid (∀ s ∈ ts, s.size ≤ maxLen) := fun s hs => by rw [TS.out s hs]; decide
  have GB := hide (own_ge o2)
  clear o2 b2 W0
  go_wp2
  go_loopw [15] (fun vk wr => ∃ k : Nat, vk = .int .i64 k ∧ k ≤ ts.length ∧ Wj w wr lo hi (.slice ap P.length cp) (.slice ah H.length ch) (.slice ab B.length cb) P (hhk H e ts k) B ∧ OwnT wr (w.heap.size + 2) (.slice a2 ts.length c2) ts) (fun vk _ => ts.length - (intOf vk).toNat)
  case atStart =>
    refine ⟨0, rfl, Nat.zero_le _, J2.out, ownsRow_raise O2.out _ (fun k hk => ?_)⟩
    have := GB.out k hk
    simpa using this
  case round =>
    obtain ⟨k, rfl, hk, hJ, ho⟩ := hrel
    have J := hide hJ
    have O := hide ho
    clear hJ O2 J2
    by_cases hlt : k < ts.length
    · have hlt' : (k : Int) < (ts.length : Int) := by omega
      have hk2 : k < 2 := by have := HL2.out; omega
      obtain ⟨ga, oa, ea, q1, _⟩ := (OwnT.rd ho SMx.out).cell k hlt
      subst ea
      obtain ⟨x0, x1, x2⟩ := J.out.arg.c3
      have HF2 := hide (HF.out k hk2)
      have HKk := hide (HK.out k)
      generalize ts.getD k ⟨#[]⟩ = s at q1 HF2 HKk
      obtain ⟨j, ej⟩ : ∃ j, j = hh + k := ⟨_, rfl⟩
      rw [← ej] at HF2 HKk
      have EJ : Hid ((hh : Int) + (k : Int) = (j : Int)) := by show _ = _; omega
      have jb : hh ≤ 3 := by omega
      clear ho ej
      go_wp2_with fail
      rw [EJ.out]
      refine (HF2.out _ J.out.dsk J.out.top).mono ?_
      rintro x w3 ⟨rfl, d3, c3⟩
      rw [← HKk.out] at d3
      have J3 := hide (J.out.step d3 c3)
      have hh2 := J.out.hh
      have O3 := hide (ownsRow_chg O.out (row_top O.out) c3 (.inr (by omega)))
      clear d3 c3 J O HF2 HKk q1 x0 x1 x2
      obtain ⟨x0, x1, x2⟩ := J3.out.arg.c3
      have f0 := J3.out.arg.frozen 0
      have f1 := J3.out.arg.frozen 1
      have f2 := J3.out.arg.frozen 2
      have J4 := hide J3.out.again
      have O4 := hide (ownsRow_chg O3.out (row_top O3.out) (Chg.store3 (lo := w.heap.size) (hi := w.heap.size + 1) w3 w.heap.size (.slice ap P.length cp) (.slice ah H.length ch) (.slice ab B.length cb) (Nat.le_refl _) (by omega)) (.inr (by omega)))
      clear J3 O3
      go_wp2
      go_roundw
      case rel => exact ⟨k + 1, by go_num, by omega, J4.out, O4.out⟩
      case measure => simp [intOf]; omega
    · obtain rfl : k = ts.length := by omega
      have e2 := HL2.out
      have jj := J.out
      rw [e2] at jj
      have hX := jj.arg
      obtain ⟨x0, x1, x2⟩ := hX.c3
      have f0 := jj.res.frozen 0
      have f1 := jj.res.frozen 1
      have f2 := jj.res.frozen 2
      obtain ⟨r0, r1, r2⟩ := jj.res.c3
      have hh2 := jj.hh
      have X9 := hide (jj.res.store3 (.slice ap P.length cp) (.slice ah H.length ch) (.slice ab B.length cb))
      have c9 := Chg.store3 (lo := w.heap.size + 1) (hi := w.heap.size + 2) wr (w.heap.size + 1) (.slice ap P.length cp) (.slice ah H.length ch) (.slice ab B.length cb) (Nat.le_refl _) (by omega)
      have D9 := hide (jj.dsk.chg c9 (.inl (by omega)))
      have C9 := hide (chg_new jj.chg c9 (by omega))
      clear hX c9 jj J O ho e2
      go_wp2
      exact bodyPost_ret (res_dsk rfl _ _ (w.heap.size + 1) _ _ _ (0, 0) rfl X9.out) rfl ⟨rfl, D9.out, C9.out⟩

end Go.Proofs.Ytpgmocogffolaaa
