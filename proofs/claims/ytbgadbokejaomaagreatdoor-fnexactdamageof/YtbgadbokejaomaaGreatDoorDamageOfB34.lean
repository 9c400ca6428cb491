/-
  DamageOf of the program and of the model, call by call. The program's table of rests must hold its seven numbers where its own is called. The law that holds the program's DamageOf against its model's: at every scrub the call returns true, and nothing that was there is written. The program's table of rests must hold its seven numbers.
-/
import Derived.Test.YtbgadbokejaomaaGreatDoorDamageOfB33
import Derived.Test.YtbgadbokejaomaaGreatDoorDamageOfB14
import Derived.Deep.RegionHeld3
namespace Go.Proofs.YtbgadbokejaomaaGreatDoor
open Go.RowKit
set_option linter.unusedVariables false
set_option linter.unusedSimpArgs false

/-- Those of the first k stripes that f denies. -/
def dmL (f : Nat → Bool) : Nat → List Int
  | 0 => []
  | k + 1 => if f k = true then dmL f k else dmL f k ++ [(k : Int)]
theorem dmL_le (f : Nat → Bool) : ∀ k, (dmL f k).length ≤ k
  | 0 => Nat.le_refl _
  | k + 1 => by
    have := dmL_le f k
    unfold dmL
    split
    · omega
    · simp only [List.length_append, List.length_singleton]; omega
theorem fun_ex (p : Nat → Prop) : ∃ f : Nat → Bool, ∀ k, f k = true ↔ p k :=
  ⟨fun k => Classical.choose (bol_exS (p k)), fun k => Classical.choose_spec (bol_exS (p k))⟩

set_option maxRecDepth 100000 in
set_option maxHeartbeats 3200000 in
theorem damageOf_calls (p h b e : Value) (cu me : Int) (P H : List ByteArray) (B : List Bool) (es : List Int) (f : Nat → Bool) (ok : Bool) (w : World) (hT : Gf.Tab w) (d : RdSc w p h b e P H B es) (hok : ok = true ↔ scOk P H B es cu me) (hf : ∀ k : Nat, f k = true ↔ dcOk (xsK P H B es (k : Int))) :
    Calls Tryz.prog 32 #[.agg (scC p h b e cu me)] w fun x w' => ∃ v', x = .returned (.tuple #[v', .bool ok]) ∧ Own w' w.heap.size v' (ifS ok (dmL f es.length)) ∧ Below w.heap.size w w' := by
  obtain ⟨ap, cp, ah, ch, ab, cb, ae, ce, rfl, rfl, rfl, rfl⟩ := d.sl
  have TT := hide hT
  have D := hide d
  have A0 := hide ((Hand.start w).box (scC (.slice ap P.length cp) (.slice ah H.length ch) (.slice ab B.length cb) (.slice ae es.length ce) cu me) 29)
  have D0 := hide (d.below A0.out.below)
  have GD := hide (fun W q => goodScrub_calls (.slice ap P.length cp) (.slice ah H.length ch) (.slice ab B.length cb) (.slice ae es.length ce) cu me P H B es ok W q hok)
  have HOK := hide hok
  have HF := hide hf
  clear d hok hf hT
  obtain ⟨x0, x1, x2, x3, x4, x5⟩ := (A0.out.atBox 0 rfl).c6
  go_enter Tryz.func32, Tryz.ntmps32
  go_wp2_with fail
  refine (GD.out _ D0.out).mono ?_
  rintro x w1 ⟨rfl, q⟩
  have A1 := hide (A0.out.step q)
  clear q A0 D0 GD x0 x1 x2 x3 x4 x5
  cases ok with
  | false =>
    go_wp2
    go_ret2
    exact ⟨_, rfl, World.ownsRow_nil _ _ _ _, A1.out.below⟩
  | true =>
  have SC := hide (HOK.out.1 rfl)
  have n4 : es.length ≤ 4 := SC.out.1.2
  have DL := hide (dmL_le f)
  clear HOK
  obtain ⟨x0, x1, x2, x3, x4, x5⟩ := (A1.out.atBox 0 rfl).c6
  have OI : Hid ((w1.alloc (.cells #[] 3)).ownsRow w1.heap.size 3 1 (.slice (some ⟨w1.heap.size, 0, none⟩) 0 0) 0 (([] : List Int).map (Value.int .i64))) := by
    show World.ownsRow _ _ _ _ _ _ _
    have := World.ownsRow_lit (base := w1.heap.size) (e := 3) (size := 1) w1 #[] 0 (Nat.le_refl _) (by unfold maxLen; omega) (by simp)
    simpa using this
  have BI := hide (below_box w1 (.cells #[] 3))
  obtain ⟨v0, v1, v2, v3, v4, v5⟩ := ((A1.out.step (below_box w1 (.cells #[] 3))).atBox 0 rfl).c6
  go_wp2
  clear x0 x1 x2 x3 x4 x5 v0 v1 v2 v3 v4 v5
  go_loopw [4, 5, 6, 7, 15] (fun vo _ _ _ vi wr => ∃ (k : Nat) (ao : Option Addr) (co : Nat), k ≤ es.length ∧ vi = .int .i64 k ∧ vo = .slice ao (dmL f k).length co ∧ Own wr w1.heap.size (.slice ao (dmL f k).length co) (dmL f k) ∧ Below w1.heap.size w1 wr) (fun _ _ _ _ vi _ => es.length - (intOf vi).toNat)
  case atStart =>
    refine ⟨0, some ⟨w1.heap.size, 0, none⟩, 0, Nat.zero_le _, rfl, rfl, OI.out, BI.out⟩
  case round =>
    obtain ⟨k, ao, co, hk, rfl, rfl, ho, hb⟩ := hrel
    have O := hide ho
    have HB := hide hb
    have l1 := DL.out k
    have AH := hide (A1.out.step hb)
    clear ho hb
    by_cases hlt : k < es.length
    · have hlt' : (k : Int) < (es.length : Int) := by omega
      have TX := hide (fun W (q0 : Gf.Tab W) q => textAt_calls (.slice ap P.length cp) (.slice ah H.length ch) (.slice ab B.length cb) (.slice ae es.length ce) cu me P H B es (k : Int) (f k) W q0 q ⟨fun h => ⟨⟨SC.out, by omega, by omega⟩, (HF.out k).1 h⟩, fun h => (HF.out k).2 h.2⟩)
      obtain ⟨x0, x1, x2, x3, x4, x5⟩ := (AH.out.atBox 0 rfl).c6
      generalize dcT (f k) (xsK P H B es (k : Int)) = tx at TX
      have DN : Hid (dmL f (k + 1) = if f k = true then dmL f k else dmL f k ++ [(k : Int)]) := rfl
      go_wp2_with fail
      refine (TX.out _ (Gf.Tab.below TT.out AH.out.below) (D.out.below AH.out.below)).mono ?_
      rintro x w3 ⟨rfl, q⟩
      have O3 := hide (ownsRow_below O.out q)
      have B3 := hide (HB.out.trans (q.mono HB.out.size))
      clear q O HB AH x0 x1 x2 x3 x4 x5 TX
      generalize f k = y at DN ⊢
      cases y with
      | true =>
        have e1 : Hid (dmL f (k + 1) = dmL f k) := DN.out
        clear DN
        go_wp2
        go_roundw
        case rel =>
          refine ⟨k + 1, ao, co, by omega, by go_num, by rw [e1.out], ?_, B3.out⟩
          rw [e1.out]
          exact O3.out
        case measure => simp [intOf]; omega
      | false =>
        have e1 : Hid (dmL f (k + 1) = dmL f k ++ [(k : Int)]) := DN.out
        clear DN
        go_wp2_with (at_builtin; refine wpList_append_int1 rfl _ _ rfl w1.heap.size _ (dmL f k).length (dmL f k) k rfl (ownsRow_below O3.out (below_box _ _)) w3.heap.size rfl (World.cell?_alloc_at _ _ _ _ (by simp)) (by omega) (by have := B3.out.size; simp; omega) ?_)
        intro g4 c4 w4 o4 p4 q4 r4
        have HL4 : Hid ((dmL f (k + 1)).length = (dmL f k).length + 1) := by show _ = _; rw [e1.out, List.length_append]; rfl
        have O4 : Hid (Own w4 w1.heap.size (.slice (some ⟨g4, 0, none⟩) ((dmL f k).length + 1) c4) (dmL f (k + 1))) := by
          show World.ownsRow _ _ _ _ _ (dmL f (k + 1)).length _
          rw [HL4.out, e1.out, List.map_append]
          exact o4
        have B4 : Hid (Below w1.heap.size w1 w4) := (B3.out.alloc B3.out.size _).grown p4 (by have := B3.out.size; simp; omega) (fun z hz => (World.ownsRow.lt O3.out z hz).1)
        clear o4 p4 q4 r4 O3 B3
        go_wp2
        go_roundw
        case rel =>
          refine ⟨k + 1, some ⟨g4, 0, none⟩, c4, by omega, by go_num, by rw [HL4.out], ?_, B4.out⟩
          rw [HL4.out]
          exact O4.out
        case measure => simp [intOf]; omega
    · obtain rfl : k = es.length := by omega
      go_wp2
      go_ret2
      exact ⟨_, rfl, Own.mono O.out A1.out.below.size, AH.out.below⟩

set_option maxRecDepth 100000 in
set_option maxHeartbeats 3200000 in
theorem sDamageOf_calls (p h b e : Value) (cu me : Int) (P H : List ByteArray) (B : List Bool) (es : List Int) (f : Nat → Bool) (ok : Bool) (w : World) (d : RdSc w p h b e P H B es) (hok : ok = true ↔ scOk P H B es cu me) (hf : ∀ k : Nat, f k = true ↔ dcOk (xsK P H B es (k : Int))) :
    Calls Tryz.prog 31 #[.agg (scC p h b e cu me)] w fun x w' => ∃ v', x = .returned (.tuple #[v', .bool ok]) ∧ Own w' w.heap.size v' (ifS ok (dmL f es.length)) ∧ Below w.heap.size w w' := by
  obtain ⟨ap, cp, ah, ch, ab, cb, ae, ce, rfl, rfl, rfl, rfl⟩ := d.sl
  have D := hide d
  have A0 := hide ((Hand.start w).box (scC (.slice ap P.length cp) (.slice ah H.length ch) (.slice ab B.length cb) (.slice ae es.length ce) cu me) 29)
  have D0 := hide (d.below A0.out.below)
  have GD := hide (fun W q => sGoodScrub_calls (.slice ap P.length cp) (.slice ah H.length ch) (.slice ab B.length cb) (.slice ae es.length ce) cu me P H B es ok W q hok)
  have HOK := hide hok
  have HF := hide hf
  clear d hok hf
  obtain ⟨x0, x1, x2, x3, x4, x5⟩ := (A0.out.atBox 0 rfl).c6
  go_enter Tryz.func31, Tryz.ntmps31
  go_wp2_with fail
  refine (GD.out _ D0.out).mono ?_
  rintro x w1 ⟨rfl, q⟩
  have A1 := hide (A0.out.step q)
  clear q A0 D0 GD x0 x1 x2 x3 x4 x5
  cases ok with
  | false =>
    go_wp2
    go_ret2
    exact ⟨_, rfl, World.ownsRow_nil _ _ _ _, A1.out.below⟩
  | true =>
  have SC := hide (HOK.out.1 rfl)
  have n4 : es.length ≤ 4 := SC.out.1.2
  have DL := hide (dmL_le f)
  clear HOK
  obtain ⟨x0, x1, x2, x3, x4, x5⟩ := (A1.out.atBox 0 rfl).c6
  go_wp2
  clear x0 x1 x2 x3 x4 x5
  go_loopw [4, 5, 6, 7, 14] (fun vo _ _ _ vi wr => ∃ (k : Nat) (ao : Option Addr) (co : Nat), k ≤ es.length ∧ vi = .int .i64 k ∧ vo = .slice ao (dmL f k).length co ∧ Own wr w1.heap.size (.slice ao (dmL f k).length co) (dmL f k) ∧ Below w1.heap.size w1 wr) (fun _ _ _ _ vi _ => es.length - (intOf vi).toNat)
  case atStart =>
    exact ⟨0, none, 0, Nat.zero_le _, rfl, rfl, World.ownsRow_nil _ _ _ _, Below.refl _ _⟩
  case round =>
    obtain ⟨k, ao, co, hk, rfl, rfl, ho, hb⟩ := hrel
    have O := hide ho
    have HB := hide hb
    have l1 := DL.out k
    have AH := hide (A1.out.step hb)
    clear ho hb
    by_cases hlt : k < es.length
    · have hlt' : (k : Int) < (es.length : Int) := by omega
      have TX := hide (fun W q => l16Text_calls (.slice ap P.length cp) (.slice ah H.length ch) (.slice ab B.length cb) (.slice ae es.length ce) cu me P H B es k (f k) W q ⟨SC.out, by omega, by omega⟩ (HF.out k))
      obtain ⟨x0, x1, x2, x3, x4, x5⟩ := (AH.out.atBox 0 rfl).c6
      generalize dcT (f k) (xsK P H B es (k : Int)) = tx at TX
      have DN : Hid (dmL f (k + 1) = if f k = true then dmL f k else dmL f k ++ [(k : Int)]) := rfl
      go_wp2_with fail
      refine (TX.out _ (D.out.below AH.out.below)).mono ?_
      rintro x w3 ⟨rfl, q⟩
      have O3 := hide (ownsRow_below O.out q)
      have B3 := hide (HB.out.trans (q.mono HB.out.size))
      clear q O HB AH x0 x1 x2 x3 x4 x5 TX
      generalize f k = y at DN ⊢
      cases y with
      | true =>
        have e1 : Hid (dmL f (k + 1) = dmL f k) := DN.out
        clear DN
        go_wp2
        go_roundw
        case rel =>
          refine ⟨k + 1, ao, co, by omega, by go_num, by rw [e1.out], ?_, B3.out⟩
          rw [e1.out]
          exact O3.out
        case measure => simp [intOf]; omega
      | false =>
        have e1 : Hid (dmL f (k + 1) = dmL f k ++ [(k : Int)]) := DN.out
        clear DN
        go_wp2_with (at_builtin; refine wpList_append_int1 rfl _ _ rfl w1.heap.size _ (dmL f k).length (dmL f k) k rfl (ownsRow_below O3.out (below_box _ _)) w3.heap.size rfl (World.cell?_alloc_at _ _ _ _ (by simp)) (by omega) (by have := B3.out.size; simp; omega) ?_)
        intro g4 c4 w4 o4 p4 q4 r4
        have HL4 : Hid ((dmL f (k + 1)).length = (dmL f k).length + 1) := by show _ = _; rw [e1.out, List.length_append]; rfl
        have O4 : Hid (Own w4 w1.heap.size (.slice (some ⟨g4, 0, none⟩) ((dmL f k).length + 1) c4) (dmL f (k + 1))) := by
          show World.ownsRow _ _ _ _ _ (dmL f (k + 1)).length _
          rw [HL4.out, e1.out, List.map_append]
          exact o4
        have B4 : Hid (Below w1.heap.size w1 w4) := (B3.out.alloc B3.out.size _).grown p4 (by have := B3.out.size; simp; omega) (fun z hz => (World.ownsRow.lt O3.out z hz).1)
        clear o4 p4 q4 r4 O3 B3
        go_wp2
        go_roundw
        case rel =>
          refine ⟨k + 1, some ⟨g4, 0, none⟩, c4, by omega, by go_num, by rw [HL4.out], ?_, B4.out⟩
          rw [HL4.out]
          exact O4.out
        case measure => simp [intOf]; omega
    · obtain rfl : k = es.length := by omega
      go_wp2
      go_ret2
      exact ⟨_, rfl, Own.mono O.out A1.out.below.size, AH.out.below⟩
end Go.Proofs.YtbgadbokejaomaaGreatDoor

namespace Go.Proofs.YtbgadbokejaomaaGreatDoor
open Go.RowKit
set_option linter.unusedVariables false
set_option linter.unusedSimpArgs false

theorem dm_len (f : Nat → Bool) (ok : Bool) (P H : List ByteArray) (B : List Bool) (es : List Int) (cu me : Int) (h : ok = true ↔ scOk P H B es cu me) : (ifS ok (dmL f es.length)).length ≤ 4 := by
  cases ok with
  | false => simp [ifS]
  | true =>
    have := dmL_le f es.length
    have := (h.1 rfl).1.2
    simp only [ifS, if_true]
    omega

set_option maxRecDepth 100000 in
set_option maxHeartbeats 3200000 in
theorem fnExactDamageOf_walk (p h b e : Value) (cu me : Int) (P H : List ByteArray) (B : List Bool) (es : List Int) (w : World) (hT : Gf.Tab w) (d : RdSc w p h b e P H B es) :
    Calls Tryz.prog 6 #[.agg (scC p h b e cu me)] w fun x w' => x = .returned (.bool true) ∧ Below w.heap.size w w' := by
  have D := hide d
  clear d
  have TT := hide hT
  obtain ⟨ok, hok⟩ := bol_exS (scOk P H B es cu me)
  obtain ⟨f, hf⟩ := fun_ex (fun k => dcOk (xsK P H B es (k : Int)))
  have C1 := hide (fun W p h b e q => sDamageOf_calls p h b e cu me P H B es f ok W q hok hf)
  have C2 := hide (fun W p h b e q0 q => damageOf_calls p h b e cu me P H B es f ok W q0 q hok hf)
  have xl := dm_len f ok P H B es cu me hok
  clear hok hT hf
  generalize ifS ok (dmL f es.length) = X at C1 C2 xl
  have A0 := hide ((Hand.start w).box (scC p h b e cu me) 39)
  go_enter Tryz.func6, Tryz.ntmps6
  obtain ⟨caS0, caS1, caS2, caS3, caS4, caS5⟩ := (A0.out.atBox 0 rfl).c6
  go_wp2_with fail
  refine (szScrub_calls p h b e cu me P H B es _ (D.out.below A0.out.below)).mono ?_
  rintro e w1 ⟨⟨r, rfl, hr⟩, q⟩
  have A1 := hide (A0.out.step q)
  clear A0 caS0 caS1 caS2 caS3 caS4 caS5 q
  by_cases r0 : r < 0
  · go_wp2
    go_ret
    exact ⟨rfl, A1.out.below⟩
  have SZ := hide (hr.resolve_left r0).2.2
  have r1 := (hr.resolve_left r0).2.1
  clear hr
  obtain ⟨caS0, caS1, caS2, caS3, caS4, caS5⟩ := (A1.out.atBox 0 rfl).c6
  go_wp2_with fail
  refine (toScrub_calls p h b e cu me P H B es _ (D.out.below A1.out.below) SZ.out).mono ?_
  rintro e w2 ⟨ps, hs, bs, es, rfl, d, q⟩
  obtain ⟨aps, cps, ahs, chs, abs, cbs, aes, ces, rfl, rfl, rfl, rfl⟩ := d.sl
  have A2 := hide (A1.out.add q (TSrb.st _ _ _ _ _ _ _ _) d)
  clear A1 caS0 caS1 caS2 caS3 caS4 caS5 q d
  obtain ⟨los, his, ds⟩ := A2.out.get 0 rfl
  have Ds : Hid (SrbV _ los his _ _ _ _ P H B es) := ds
  clear ds
  go_wp2_with fail
  refine (C1.out _ _ _ _ _ Ds.out.rd).mono ?_
  rintro e w3 ⟨vj, rfl, o, q⟩
  obtain ⟨aj, cj, rfl⟩ := row_slice o
  have A3 := hide (A2.out.add q (TInts.st _ _) ⟨o, row_top o⟩)
  clear A2 Ds los his q o
  obtain ⟨caS0, caS1, caS2, caS3, caS4, caS5⟩ := (A3.out.atBox 2 rfl).c6
  go_wp2_with fail
  refine (toScrub_calls p h b e cu me P H B es _ (D.out.below A3.out.below) SZ.out).mono ?_
  rintro e w4 ⟨px, hx, bx, ex, rfl, d, q⟩
  obtain ⟨apx, cpx, ahx, chx, abx, cbx, aex, cex, rfl, rfl, rfl, rfl⟩ := d.sl
  have A4 := hide ((A3.out.add q (TSrb.st _ _ _ _ _ _ _ _) d).box (scC (.slice apx P.length cpx) (.slice ahx H.length chx) (.slice abx B.length cbx) (.slice aex es.length cex) cu me) 29)
  clear A3 caS0 caS1 caS2 caS3 caS4 caS5 q d
  obtain ⟨cbx0, cbx1, cbx2, cbx3, cbx4, cbx5⟩ := (A4.out.atBox 0 rfl).c6
  obtain ⟨lox, hix, dx⟩ := A4.out.get 1 rfl
  have Dx : Hid (SrbV _ lox hix _ _ _ _ P H B es) := dx
  clear dx
  go_wp2_with fail
  refine (C2.out _ _ _ _ _ (Gf.Tab.below TT.out A4.out.below) Dx.out.rd).mono ?_
  rintro e w5 ⟨vg, rfl, o, q⟩
  obtain ⟨ag, cg, rfl⟩ := row_slice o
  have A5 := hide (A4.out.add q (TInts.st _ _) ⟨o, row_top o⟩)
  clear A4 cbx0 cbx1 cbx2 cbx3 cbx4 cbx5 Dx lox hix q o
  have ee : (ok != ok) = false := by simp
  obtain ⟨log, hig, dg⟩ := A5.out.get 0 rfl
  have Dg := hide (Own.rd dg.1)
  clear dg
  obtain ⟨loj, hij, dj⟩ := A5.out.get 3 rfl
  have Dj := hide (Own.rd dj.1)
  clear dj
  go_wp2_with fail
  refine (eqIntS_same _ _ X _ Dg.out Dj.out).mono ?_
  rintro e w6 ⟨rfl, q⟩
  have A6 := hide (A5.out.step q)
  clear A5 Dg log hig Dj loj hij q
  go_wp2
  obtain ⟨lo5, hi5, dd⟩ := A6.out.get 2 rfl
  have D5 : Hid (SrbV _ lo5 hi5 _ _ _ _ P H B es) := dd
  clear dd
  have F : Hid (∀ w', Below w6.heap.size w6 w' → (w'.cell? ⟨w.heap.size, 0, none⟩ = some p ∧ w'.cell? ⟨w.heap.size, 1, none⟩ = some h ∧ w'.cell? ⟨w.heap.size, 2, none⟩ = some b ∧ w'.cell? ⟨w.heap.size, 3, none⟩ = some e ∧ w'.cell? ⟨w.heap.size, 4, none⟩ = some (.int .i64 cu) ∧ w'.cell? ⟨w.heap.size, 5, none⟩ = some (.int .i64 me)) ∧ (w'.cell? ⟨w4.heap.size, 0, none⟩ = some (.slice apx P.length cpx) ∧ w'.cell? ⟨w4.heap.size, 1, none⟩ = some (.slice ahx H.length chx) ∧ w'.cell? ⟨w4.heap.size, 2, none⟩ = some (.slice abx B.length cbx) ∧ w'.cell? ⟨w4.heap.size, 3, none⟩ = some (.slice aex es.length cex) ∧ w'.cell? ⟨w4.heap.size, 4, none⟩ = some (.int .i64 cu) ∧ w'.cell? ⟨w4.heap.size, 5, none⟩ = some (.int .i64 me))) :=
    fun w' hb => ⟨((A6.out.step hb).atBox 5 rfl).c6, ((A6.out.step hb).atBox 1 rfl).c6⟩
  go_region_held3 (fun w' => (w'.cell? ⟨w.heap.size, 0, none⟩ = some p ∧ w'.cell? ⟨w.heap.size, 1, none⟩ = some h ∧ w'.cell? ⟨w.heap.size, 2, none⟩ = some b ∧ w'.cell? ⟨w.heap.size, 3, none⟩ = some e ∧ w'.cell? ⟨w.heap.size, 4, none⟩ = some (.int .i64 cu) ∧ w'.cell? ⟨w.heap.size, 5, none⟩ = some (.int .i64 me)) ∧ (w'.cell? ⟨w4.heap.size, 0, none⟩ = some (.slice apx P.length cpx) ∧ w'.cell? ⟨w4.heap.size, 1, none⟩ = some (.slice ahx H.length chx) ∧ w'.cell? ⟨w4.heap.size, 2, none⟩ = some (.slice abx B.length cbx) ∧ w'.cell? ⟨w4.heap.size, 3, none⟩ = some (.slice aex es.length cex) ∧ w'.cell? ⟨w4.heap.size, 4, none⟩ = some (.int .i64 cu) ∧ w'.cell? ⟨w4.heap.size, 5, none⟩ = some (.int .i64 me))) (first | exact F.out _ (Below.refl _ _).drew | exact F.out _ B2.out | exact F.out _ B1.out)
    ((first | (go_at_call 17; refine (eqScrub_same _ _ _ _ _ _ _ _ cu me P H B es _ (D5.out.below B1.out).rd D6.out.rd).mono ?_; rintro e' wr7 ⟨rfl, b7⟩; have B2 := hide (B1.out.trans (b7.mono B1.out.size)); clear b7) | (go_at_call 24; refine (toScrub_calls p h b e cu me P H B es _ (D.out.below (A6.out.step (Below.refl _ _).drew).below) SZ.out).mono ?_; rintro e' wr6 ⟨p3, h3, b3, e3, rfl, d6, b6⟩; have D6 := hide d6; have B1 := hide ((Below.refl w6.heap.size w6).drew.trans b6); clear b6 d6)))
  have A7 := hide (A6.out.step B2.out)
  clear A6 F B1 B2 D5 D6 lo5 hi5
  obtain ⟨cbx0, cbx1, cbx2, cbx3, cbx4, cbx5⟩ := (A7.out.atBox 1 rfl).c6
  obtain ⟨lox, hix, dx, lw, hw, put⟩ := A7.out.open 2 rfl
  have PUT := hide put
  have HW := hide hw
  have Dx : Hid (SrbV _ lox hix _ _ _ _ P H B es) := dx
  clear put lw hw dx
  go_wp2_with fail
  refine (markScrub_calls _ _ _ _ cu me P H B es lox hix _ Dx.out HW.out SZ.out.1 SZ.out.2).mono ?_
  rintro e w8 ⟨rfl, d4, c4⟩
  have A8 := hide (PUT.out _ (TSrb _ _ _ _ _ _ _ _) (TSrb.st _ _ _ _ _ _ _ _) d4 c4)
  clear A7 cbx0 cbx1 cbx2 cbx3 cbx4 cbx5 lox hix PUT HW Dx d4 c4
  have k0 : ¬ ((enSc P H B es : Nat) : Int) < 0 := by omega
  obtain ⟨log, hig, dg⟩ := A8.out.get 0 rfl
  have Dg := hide (Own.rd dg.1)
  clear dg
  obtain ⟨loj, hij, dj⟩ := A8.out.get 3 rfl
  have Dj := hide (Own.rd dj.1)
  clear dj
  go_wp2_with fail
  refine (eqIntS_same _ _ X _ Dg.out Dj.out).mono ?_
  rintro e w9 ⟨rfl, q⟩
  have A9 := hide (A8.out.step q)
  clear A8 Dg log hig Dj loj hij q
  obtain ⟨log, hig, dg, lw, hw, put⟩ := A9.out.open 0 rfl
  have PUT := hide put
  have HW := hide hw
  have Dg := hide dg.1
  have TDg := hide dg.2
  clear put lw hw dg
  go_wp2_with fail
  refine (markIntS_calls _ X 1 _ _ Dg.out (by omega) (by omega) (by omega)).mono ?_
  rintro e w10 ⟨rfl, o4, g4⟩
  have A10 := hide (PUT.out _ (TInts _ _) (TInts.st _ _) ⟨o4, TDg.out⟩ (Chg.ofGrown g4 (fun j hj => ⟨row_low Dg.out j hj, TDg.out j hj⟩)))
  clear A9 log hig PUT HW Dg TDg o4 g4
  obtain ⟨log, hig, dg⟩ := A10.out.get 0 rfl
  have Dg := hide (Own.rd dg.1)
  clear dg
  go_wp2_with fail
  refine (heldIntS_calls _ X.length 1 _ Dg.out (by omega) (by omega) (by omega)).mono ?_
  rintro e w11 ⟨rfl, rfl⟩
  clear Dg log hig
  obtain ⟨caS0, caS1, caS2, caS3, caS4, caS5⟩ := (A10.out.atBox 5 rfl).c6
  go_wp2_with fail
  refine (toScrub_calls p h b e cu me P H B es _ (D.out.below A10.out.below) SZ.out).mono ?_
  rintro e w12 ⟨pz, hz, bz, ez, rfl, d, q⟩
  obtain ⟨apz, cpz, ahz, chz, abz, cbz, aez, cez, rfl, rfl, rfl, rfl⟩ := d.sl
  have A12 := hide (A10.out.add q (TSrb.st _ _ _ _ _ _ _ _) d)
  clear A10 caS0 caS1 caS2 caS3 caS4 caS5 q d
  obtain ⟨loz, hiz, dz⟩ := A12.out.get 0 rfl
  have Dz : Hid (SrbV _ loz hiz _ _ _ _ P H B es) := dz
  clear dz
  go_wp2_with fail
  refine (C2.out _ _ _ _ _ (Gf.Tab.below TT.out A12.out.below) Dz.out.rd).mono ?_
  rintro e w13 ⟨vu, rfl, o, q⟩
  obtain ⟨au, cu, rfl⟩ := row_slice o
  have A13 := hide (A12.out.add q (TInts.st _ _) ⟨o, row_top o⟩)
  clear A12 Dz loz hiz q o
  obtain ⟨lou, hiu, du⟩ := A13.out.get 0 rfl
  have Du := hide (Own.rd du.1)
  clear du
  obtain ⟨loj, hij, dj⟩ := A13.out.get 5 rfl
  have Dj := hide (Own.rd dj.1)
  clear dj
  go_wp2_with fail
  refine (eqIntS_same _ _ X _ Du.out Dj.out).mono ?_
  rintro e w14 ⟨rfl, q⟩
  have A14 := hide (A13.out.step q)
  clear A13 Du lou hiu Dj loj hij q
  obtain ⟨log, hig, dg⟩ := A14.out.get 2 rfl
  have Dg := hide (Own.rd dg.1)
  clear dg
  go_wp2_with fail
  refine (heldIntS_calls _ X.length 1 _ Dg.out (by omega) (by omega) (by omega)).mono ?_
  rintro e w15 ⟨rfl, rfl⟩
  clear Dg log hig
  go_wp2
  go_ret
  exact ⟨rfl, A14.out.below⟩
end Go.Proofs.YtbgadbokejaomaaGreatDoor
