/-
  A stripe read: the program's othersIn, decodeStripe and ReadStripe. The program's table of rests must hold its seven numbers where the program's own functions are called. A stripe's health: the program's healthIn and HealthOf. Each contract says what it asks.
-/
import Derived.Test.YthdbacihhmilbaaGreatDoorStripesB27
import Derived.Test.YthdbacihhmilbaaGreatDoorStripesB10
import Derived.Test.YthdbacihhmilbaaGreatDoorStripesB0
set_option linter.unusedVariables false
set_option maxRecDepth 100000
set_option maxHeartbeats 3200000
namespace Go.Proofs.YthdbacihhmilbaaGreatDoor
open Go.RowKit
open Gf (ci nat)
theorem othersIn_calls (v : Value) (xs : List Pc) (r : Int) (w : World) (h : RdP w v xs) (hok : ∀ k, okP (xs.getD k none)) (hl : xs.length ≤ 24) :
    Calls Tryz.prog 49 #[.agg #[v, .int .i64 r]] w fun e w' => ∃ v', e = .returned v' ∧ Own w' w.heap.size v' (othE (xs.map epo) r xs.length) ∧ Below w.heap.size w w' := by
 have OK := hide hok
 obtain ⟨W0, hW⟩ : ∃ W0, W0 = w.alloc (.cells #[v, .int .i64 r] 83) := ⟨_, rfl⟩
 have b0 : Below w.heap.size w W0 := by rw [hW]; exact below_box _ _
 have bx : BoxAt W0 w.heap.size #[v, .int .i64 r] 83 := by rw [hW]; exact BoxAt.new _ _ _
 have R := hide (h.below b0)
 obtain ⟨a, cap, rfl, m1, _⟩ := h.sl
 have BX := hide bx
 have BW := hide b0
 have HW := hide hW
 obtain ⟨ot, hot⟩ : ∃ ot : Nat → List Int, ot = othE (xs.map epo) r := ⟨_, rfl⟩
 have o0 : ot 0 = [] := by rw [hot]; rfl
 have os : ∀ k, k < xs.length → ot (k + 1) = if isE r (epo (xs.getD k none)) = true then ot k else ot k ++ [(k : Int)] := by
  intro k hk
  rw [hot]
  show (if (!isE r ((xs.map epo).getD k 0)) = true then _ else _) = _
  rw [map_getD xs k hk]
  cases isE r (epo (xs.getD k none)) <;> rfl
 have ol : ∀ k, (ot k).length ≤ k := by intro k; rw [hot]; exact pkE_le _ _ _
 rw [← hot]
 have O0 := hide o0
 have OS := hide os
 have OL := hide ol
 have OI : Hid ((W0.alloc (.cells #[] 3)).ownsRow W0.heap.size 3 1 (.slice (some ⟨W0.heap.size, 0, none⟩) 0 0) 0 (([] : List Int).map (Value.int .i64))) := by
  show World.ownsRow _ _ _ _ _ _ _
  have := World.ownsRow_lit (base := W0.heap.size) (e := 3) (size := 1) W0 #[] 0 (Nat.le_refl _) (by unfold maxLen; omega) (by simp)
  simpa using this
 have BI := hide (below_box W0 (.cells #[] 3))
 clear hot o0 os ol h hok b0 bx hW m1
 go_enter Tryz.func49, Tryz.ntmps49
 go_wp2
 rw [← HW.out]
 go_loopw [3, 4, 5, 10] (fun vo _ _ vi wr => ∃ (k : Nat) (ao : Option Addr) (co : Nat), k ≤ xs.length ∧ vi = .int .i64 k ∧ vo = .slice ao (ot k).length co ∧ Own wr W0.heap.size (.slice ao (ot k).length co) (ot k) ∧ Below W0.heap.size W0 wr) (fun _ _ _ vi _ => xs.length - (intOf vi).toNat)
 case atStart =>
  refine ⟨0, some ⟨W0.heap.size, 0, none⟩, 0, Nat.zero_le _, rfl, ?_, ?_, BI.out⟩
  ·rw [O0.out]
   have := congrArg (fun W : World => W.heap.size) HW.out
   simp only [World.size_alloc] at this
   first | rfl | simp [this]
  ·rw [O0.out]
   exact OI.out
 case round =>
  obtain ⟨k, ao, co, hk, rfl, rfl, ho, hb⟩ := hrel
  have O := hide ho
  have HB := hide hb
  have l1 := OL.out k
  clear ho
  by_cases hlt : k < xs.length
  ·obtain ⟨gb, off, hga, hc, _⟩ := (R.out.below hb).cell k hlt
   subst hga
   have hlt' : (k : Int) < (xs.length : Int) := by omega
   have C := hide (fun W => isOf_calls (xs.getD k none) r W (OK.out k))
   have S := hide (OS.out k hlt)
   generalize epo (xs.getD k none) = ee at C S
   generalize isE r ee = yes at C S
   generalize pv (xs.getD k none) = u at hc C
   have sx1 : wr.cell? ⟨w.heap.size, 1, none⟩ = some (.int .i64 r) := (BX.out.below hb).cell 1
   clear hb
   go_wp2_with fail
   refine (C.out _).mono ?_
   rintro e w1 ⟨rfl, q⟩
   have B1 := hide (HB.out.trans (q.mono HB.out.size))
   have O1 := hide (O.out.below q)
   clear q hc sx1 O
   cases yes with
   | true =>
    have e1 : Hid (ot (k + 1) = ot k) := by show _ = _; rw [S.out]; rfl
    go_wp2
    go_roundw
    case rel =>
     refine ⟨k + 1, ao, co, by omega, by go_num, by rw [e1.out], ?_, B1.out⟩
     rw [e1.out]
     exact O1.out
    case measure => simp [intOf]; omega
   | false =>
    have e1 : Hid (ot (k + 1) = ot k ++ [(k : Int)]) := by show _ = _; rw [S.out]; rfl
    have s2 := B1.out.size
    go_wp2_with (at_builtin; refine wpList_append_int1 rfl _ _ rfl W0.heap.size _ (ot k).length (ot k) k rfl (ownsRow_below O1.out (below_box _ _)) w1.heap.size rfl (World.cell?_alloc_at _ _ _ _ (by simp)) (by omega) (by simp; omega) ?_)
    intro g4 c4 w4 o4 p4 q4 r4
    have HL4 : Hid ((ot (k + 1)).length = (ot k).length + 1) := by show _ = _; rw [e1.out, List.length_append]; rfl
    have O4 : Hid (Own w4 W0.heap.size (.slice (some ⟨g4, 0, none⟩) ((ot k).length + 1) c4) (ot (k + 1))) := by
     show World.ownsRow _ _ _ _ _ (ot (k + 1)).length _
     rw [HL4.out, e1.out, List.map_append]
     exact o4
    have B4 : Hid (Below W0.heap.size W0 w4) := (B1.out.alloc B1.out.size _).grown p4 (by simp; omega) (fun z hz => (World.ownsRow.lt O1.out z hz).1)
    clear o4 p4 q4 r4 O1
    go_wp2
    go_roundw
    case rel =>
     refine ⟨k + 1, some ⟨g4, 0, none⟩, c4, by omega, by go_num, by rw [HL4.out], ?_, B4.out⟩
     rw [HL4.out]
     exact O4.out
    case measure => simp [intOf]; omega
  ·obtain rfl : k = xs.length := by omega
   clear hb
   go_wp2
   go_ret
   exact ⟨_, rfl, Own.mono O.out BW.out.size, BW.out.trans (HB.out.mono BW.out.size)⟩
def bdC (xs : List Pc) : List (List Int) := xs.map fun x => ci (bdo x)
theorem bdC_length (xs : List Pc) : (bdC xs).length = xs.length := by simp [bdC]
theorem bdC_get (xs : List Pc) (k : Nat) (h : k < xs.length) : (bdC xs).getD k [] = ci (bdo (xs.getD k none)) := by
 unfold bdC
 rw [qg, qg, List.getElem?_map, List.getElem?_eq_getElem h]
 rfl
theorem bdC_ok {xs : List Pc} (hl : xs.length = 5) (hok : ∀ k, okP (xs.getD k none)) : piecesOk (bdC xs) = true := by
 refine piecesOk_yes fun i hi => ?_
 rw [bdC_length] at hi
 unfold pieceAt
 rw [bdC_get xs i hi, bdC_get xs 0 (by omega), Gf.ci_length, Gf.ci_length, bdo_length (hok i), bdo_length (hok 0), ci_el (bdo_small _)]
 rfl
theorem bdC_all {xs : List Pc} : (bdC xs).all (fun r : List Int => r.all Gf.elOk) = true := by
 rw [List.all_eq_true]
 intro r hr
 unfold bdC at hr
 obtain ⟨x, _, rfl⟩ := List.mem_map.1 hr
 exact ci_el (bdo_small x)
theorem pk_rises (f : Int → Bool) (es : List Int) (n : Nat) : ∀ k, k ≤ n → risesM (pkE f es k) (n : Int) = true := by
 intro k
 induction k with
 | zero => intro _; rfl
 | succ k ih =>
  intro hk
  have ih' := ih (by omega)
  simp only [pkE]
  split
  ·refine risesM_yes fun i hi => ?_
   rw [List.length_append, List.length_singleton] at hi
   have hmem : ∀ j, j < (pkE f es k).length → (pkE f es k).getD j 0 < (k : Int) := fun j hj => by
    have := pkE_mem f es k ((pkE f es k).getD j 0) (by rw [qg, List.getElem?_eq_getElem hj]; exact List.getElem_mem hj)
    exact this.2
   by_cases e : i = (pkE f es k).length
   ·subst e
    have g1 : (pkE f es k ++ [(k : Int)]).getD (pkE f es k).length 0 = (k : Int) := by simp
    unfold risAtM
    rw [g1, decide_eq_true_eq]
    refine ⟨by omega, by omega, ?_⟩
    by_cases h0 : (pkE f es k).length = 0
    ·exact .inl h0
    ·right
     have g2 : (pkE f es k ++ [(k : Int)]).getD ((pkE f es k).length - 1) 0 = (pkE f es k).getD ((pkE f es k).length - 1) 0 := by
      simp only [qg]
      rw [List.getElem?_append_left (by omega)]
     rw [g2]
     exact hmem _ (by omega)
   ·have hi2 : i < (pkE f es k).length := by omega
    have := risesM_at ih' i hi2
    unfold risAtM at this ⊢
    have g1 : ∀ j, j < (pkE f es k).length → (pkE f es k ++ [(k : Int)]).getD j 0 = (pkE f es k).getD j 0 := fun j hj => by
     simp only [qg]
     rw [List.getElem?_append_left hj]
    rw [g1 i hi2]
    by_cases h0 : i = 0
    ·subst h0
     simpa using this
    ·rw [g1 (i - 1) (by omega)]
     exact this
  ·exact ih'
def dcM (xs : List Pc) : List (List Int) := decM 3 2 (bdC xs) (othE (xs.map epo) (rtE (xs.map epo) 5) 5)
def rtX (xs : List Pc) : Int := rtE (xs.map epo) 5
theorem dc_yes {xs : List Pc} (hl : xs.length = 5) (hok : ∀ k, okP (xs.getD k none)) (hr : 0 ≤ rtX xs) : decR 3 2 (bdC xs) (othE (xs.map epo) (rtX xs) 5) = (dcM xs, true) ∧ DecF 3 2 16 (bdC xs) (othE (xs.map epo) (rtX xs) 5) := by
 have hel : (xs.map epo).length = 5 := by rw [List.length_map, hl]
 have hf := othE_few (es := xs.map epo) (by rw [hel]; exact hr)
 rw [hel] at hf
 have hri : risesM (othE (xs.map epo) (rtX xs) 5) ((5 : Nat) : Int) = true := pk_rises _ _ 5 5 (Nat.le_refl _)
 have hd : decOk 3 2 (bdC xs) (othE (xs.map epo) (rtX xs) 5) = true := by
  unfold decOk canR canOk
  rw [show ((3 : Int) + 2) = ((5 : Nat) : Int) by rfl, hri, if_pos (by decide), bdC_ok hl hok, bdC_length, hl]
  have : ((othE (xs.map epo) (rtX xs) 5).length : Int) ≤ 2 := by show ((othE (xs.map epo) (rtE (xs.map epo) 5) 5).length : Int) ≤ 2; omega
  simp [this]
 refine ⟨?_, ⟨by omega, by omega, by omega, by omega, hri, by show (othE (xs.map epo) (rtE (xs.map epo) 5) 5).length ≤ 2; omega, by rw [bdC_length, hl], by rw [bdC_get xs 0 (by omega), Gf.ci_length, bdo_length (hok 0)], by omega, bdC_ok hl hok⟩⟩
 unfold decR
 rw [if_pos hd]
 rfl
theorem dc_no {xs : List Pc} (hl : xs.length = 5) (hok : ∀ k, okP (xs.getD k none)) (hr : rtX xs < 0) : decR 3 2 (bdC xs) (othE (xs.map epo) (rtX xs) 5) = ([], false) := by
 have h5 := othE_all (es := xs.map epo) hr 5
 refine dec_no ?_
 unfold decOk canR
 split
 ·rw [h5]
  rfl
 ·rfl
theorem dc_tf {xs : List Pc} (hl : xs.length = 5) (hok : ∀ k, okP (xs.getD k none)) (hr : 0 ≤ rtX xs) : tfOk (dcM xs) = true := by
 have D := (dc_yes hl hok hr).2
 have ef : EncF 3 2 16 (Gf.ciM (decX 3 2 (bdC xs) (othE (xs.map epo) (rtX xs) 5))) := ⟨by omega, by omega, by omega, by omega, by rw [Gf.ciM_length, D.shX.len], by rw [Gf.ciM_get, Gf.ci_length, D.shX.row 0 (by omega)], by omega, D.okX⟩
 have hc := ef.chk
 have hr0 := (ef.row 0 (by omega)).1
 unfold tfOk dcM
 show ((chkR 3 2 (mulM (codeM 3 2) (Gf.ciM (decX 3 2 (bdC xs) (othE (xs.map epo) (rtX xs) 5))))).1 && decide (((mulM (codeM 3 2) (Gf.ciM (decX 3 2 (bdC xs) (othE (xs.map epo) (rtX xs) 5)))).getD 0 []).length = 16)) = true
 have hc' : chkR 3 2 (mulM (codeM 3 2) (Gf.ciM (decX 3 2 (bdC xs) (othE (xs.map epo) (rtX xs) 5)))) = (true, true) := hc
 rw [hc', hr0]
 rfl
def dcOk (xs : List Pc) : Prop := 0 ≤ rtX xs ∧ tfP (dcM xs)
def dcT (ok : Bool) (xs : List Pc) : ByteArray := if ok = true then tfT (dcM xs) else ⟨#[]⟩
theorem decodeStripe_calls (v : Value) (xs : List Pc) (ok : Bool) (w : World) (hT : Gf.Tab w) (h : RdP w v xs) (hok : ∀ k, okP (xs.getD k none)) (hl : xs.length = 5) (hd : ok = true ↔ dcOk xs) :
    Calls Tryz.prog 48 #[.agg #[v, .int .i64 (rtX xs)]] w fun e w' => ∃ v', e = .returned (.tuple #[v', .string (dcT ok xs), .bool ok]) ∧ RdM w' v' (if ok = true then dcM xs else []) ∧ Below w.heap.size w w' := by
 have T := hide hT
 have R := hide h
 have A0 := hide ((Hand.start w).box #[v, .int .i64 (rtX xs)] 83)
 have C1 := hide (fun W hh => eachPiece_calls v xs W hh hok (by omega))
 have C2 := hide (fun W hh => othersIn_calls v xs (rtX xs) W hh hok (by omega))
 rw [hl] at C2
 have C3 := hide (fun W vm vo hT hm ho => decodePieces_calls 3 2 vm vo (bdC xs) (othE (xs.map epo) (rtX xs) 5) W hT hm ho bdC_all)
 obtain ⟨a, cap, rfl, m1⟩ := h.slP
 clear hT m1
 by_cases hr : 0 ≤ rtX xs
 case neg =>
  have okf : ok = false := by
   cases ok with
   | false => rfl
   | true => exact absurd (hd.1 rfl).1 hr
  subst okf
  rw [dc_no hl hok (by omega)] at C3
  show Calls _ _ _ _ fun e w' => ∃ v', e = .returned (.tuple #[v', .string ⟨#[]⟩, .bool false]) ∧ RdM w' v' [] ∧ Below w.heap.size w w'
  generalize rtX xs = r at *
  have bx := A0.out.atBox 0 rfl
  have c0 : World.cell? _ ⟨w.heap.size, 0, none⟩ = some (.slice a xs.length cap) := bx.cell 0
  have c1 : World.cell? _ ⟨w.heap.size, 1, none⟩ = some (.int .i64 r) := bx.cell 1
  clear hl hd hok bx
  go_enter Tryz.func48, Tryz.ntmps48
  go_wp2_with fail
  refine (C1.out _ (R.out.below A0.out.below)).mono ?_
  rintro e w1 ⟨v1, rfl, r1, q⟩
  have R1 := hide r1
  have A1 := hide (A0.out.step q)
  clear q r1 A0 c0 c1
  have bx := A1.out.atBox 0 rfl
  have c0 : World.cell? _ ⟨w.heap.size, 0, none⟩ = some (.slice a xs.length cap) := bx.cell 0
  have c1 : World.cell? _ ⟨w.heap.size, 1, none⟩ = some (.int .i64 r) := bx.cell 1
  clear bx
  go_wp2_with fail
  refine (C2.out _ (R.out.below A1.out.below)).mono ?_
  rintro e w2 ⟨v2, rfl, o2, q⟩
  have O2 := hide (Own.rd o2)
  have R2 := hide (R1.out.below q)
  have A2 := hide (A1.out.step q)
  clear q o2 A1 R1 c0 c1
  go_wp2_with fail
  refine (C3.out _ _ _ (Gf.Tab.below T.out A2.out.below) R2.out O2.out).mono ?_
  rintro e w3 ⟨v3, rfl, m3, q⟩
  have A3 := hide (A2.out.step q)
  clear q m3 A2
  go_wp2
  go_ret3
  exact ⟨_, rfl, ⟨none, 0, rfl, Nat.le_refl _, ⟨Nat.zero_le _, fun _ => rfl⟩, .inl rfl⟩, A3.out.below⟩
 rw [(dc_yes hl hok hr).1] at C3
 have hto := dc_tf hl hok hr
 have hy : ok = true ↔ tfP (dcM xs) := by rw [hd]; exact ⟨fun h => h.2, fun h => ⟨hr, h⟩⟩
 have C4 := hide (fun W vm hT hm => textFrom_calls vm (dcM xs) ok W hy hT hm)
 have er : tfR (dcM xs) ok = (dcT ok xs, ok) := by
  unfold tfR dcT
  cases ok <;> simp [hto]
 rw [er] at C4
 have TF : Hid (ok = false → dcT ok xs = ⟨#[]⟩) := fun e => by unfold dcT; rw [e]; rfl
 generalize rtX xs = r at *
 generalize dcM xs = dm at *
 generalize dcT ok xs = tt at *
 have bx := A0.out.atBox 0 rfl
 have c0 : World.cell? _ ⟨w.heap.size, 0, none⟩ = some (.slice a xs.length cap) := bx.cell 0
 have c1 : World.cell? _ ⟨w.heap.size, 1, none⟩ = some (.int .i64 r) := bx.cell 1
 clear hl hd hok bx er hto hy
 go_enter Tryz.func48, Tryz.ntmps48
 go_wp2_with fail
 refine (C1.out _ (R.out.below A0.out.below)).mono ?_
 rintro e w1 ⟨v1, rfl, r1, q⟩
 have R1 := hide r1
 have A1 := hide (A0.out.step q)
 clear q r1 A0 c0 c1
 have bx := A1.out.atBox 0 rfl
 have c0 : World.cell? _ ⟨w.heap.size, 0, none⟩ = some (.slice a xs.length cap) := bx.cell 0
 have c1 : World.cell? _ ⟨w.heap.size, 1, none⟩ = some (.int .i64 r) := bx.cell 1
 clear bx
 go_wp2_with fail
 refine (C2.out _ (R.out.below A1.out.below)).mono ?_
 rintro e w2 ⟨v2, rfl, o2, q⟩
 have O2 := hide (Own.rd o2)
 have R2 := hide (R1.out.below q)
 have A2 := hide (A1.out.step q)
 clear q o2 A1 R1 c0 c1
 go_wp2_with fail
 refine (C3.out _ _ _ (Gf.Tab.below T.out A2.out.below) R2.out O2.out).mono ?_
 rintro e w3 ⟨v3, rfl, m3, q⟩
 have R3 := hide m3.rd
 have A3 := hide (A2.out.step q)
 clear q m3 A2
 go_wp2_with fail
 refine (C4.out _ _ (Gf.Tab.below T.out A3.out.below) R3.out).mono ?_
 rintro e w4 ⟨rfl, q⟩
 have R4 := hide (R3.out.below q)
 have A4 := hide (A3.out.step q)
 clear q A3 R3
 cases ok with
 | true =>
  go_wp2
  go_ret3
  exact ⟨_, rfl, R4.out, A4.out.below⟩
 | false =>
  have et := TF.out rfl
  subst et
  go_wp2
  go_ret3
  exact ⟨_, rfl, ⟨none, 0, rfl, Nat.le_refl _, ⟨Nat.zero_le _, fun _ => rfl⟩, .inl rfl⟩, A4.out.below⟩
def rsX (P H : List ByteArray) (B : List Bool) (least A : Int) : List Pc := skL P H B least A.toNat
theorem rsX_length (P H : List ByteArray) (B : List Bool) (least A : Int) : (rsX P H B least A).length = 5 := skL_length _ _ _ _ _
theorem rsX_ok (P H : List ByteArray) (B : List Bool) (least A : Int) : ∀ k, okP ((rsX P H B least A).getD k none) := skL_ok _ _ _ _ _
def rsOth (ok : Bool) (xs : List Pc) : List Int := if ok = true then othE (xs.map epo) (rtX xs) 5 else []
theorem rsOth_le (ok : Bool) (xs : List Pc) : (rsOth ok xs).length ≤ 5 := by
 unfold rsOth
 split
 ·exact pkE_le _ _ _
 ·exact Nat.zero_le _
theorem readStripe_calls (p h b : Value) (P H : List ByteArray) (B : List Bool) (A least : Int) (ok : Bool) (w : World) (hT : Gf.Tab w) (hok : ok = true ↔ ((gkP P H B ∧ ftP P A) ∧ dcOk (rsX P H B least A))) (hwf : (Lit.int .i64 A).wf = true) (hp : RdT w p P) (hh : RdT w h H) (hb : RdZ w b B) :
    Calls Tryz.prog 9 #[.agg #[p, h, b], .int .i64 A, .int .i64 least] w fun e w' => ∃ v', e = .returned (.tuple #[.string (dcT ok (rsX P H B least A)), v', .bool ok]) ∧ Own w' w.heap.size v' (rsOth ok (rsX P H B least A)) ∧ Below w.heap.size w w' := by
 have T := hide hT
 have RP := hide hp
 have RH := hide hh
 have RB := hide hb
 obtain ⟨f, hf⟩ := ft_bool P H B A
 have HF := hide hf
 have C1 := hide (fun W h1 h2 h3 => liesOn_calls p h b P H B A f W hf hwf h1 h2 h3)
 have A0 := hide ((Hand.start w).box #[p, h, b] 26)
 obtain ⟨c0, c1, c2⟩ := (A0.out.atBox 0 rfl).c3
 clear hp hh hb hT hf hwf
 cases f with
 | false =>
  have okf : ok = false := by
   cases ok with
   | false => rfl
   | true => have := HF.out.2 (hok.1 rfl).1; simp at this
  subst okf
  show Calls _ _ _ _ fun e w' => ∃ v', e = .returned (.tuple #[.string ⟨#[]⟩, v', .bool false]) ∧ Own w' w.heap.size v' [] ∧ Below w.heap.size w w'
  go_enter Tryz.func9, Tryz.ntmps9
  go_wp2_with fail
  refine (C1.out _ (RP.out.below A0.out.below) (RH.out.below A0.out.below) (RB.out.below A0.out.below)).mono ?_
  rintro e w1 ⟨rfl, q⟩
  have A1 := hide (A0.out.step q)
  clear q A0 c0 c1 c2
  go_wp2
  go_ret3
  exact ⟨_, rfl, World.ownsRow_nil _ _ _ _, A1.out.below⟩
 | true =>
 have GK := hide (HF.out.1 rfl).1
 have FT := hide (HF.out.1 rfl).2
 have HD : Hid (ok = true ↔ dcOk (rsX P H B least A)) := by show _ ↔ _; rw [hok]; exact ⟨fun h => h.2, fun h => ⟨HF.out.1 rfl, h⟩⟩
 obtain ⟨a, rfl⟩ : ∃ a : Nat, A = (a : Int) := ⟨A.toNat, by have := FT.out.1; omega⟩
 have ha5 : a + 5 ≤ P.length := by have := FT.out.2; omega
 have ex : rsX P H B least (a : Int) = skL P H B least a := by unfold rsX; rw [Int.toNat_natCast]
 rw [ex] at HD
 rw [ex]
 have C2 := hide (fun W h1 h2 h3 => findStripe_calls p h b P H B a least W GK.out ha5 h1 h2 h3)
 have C3 := hide (fun W v hT hv => decodeStripe_calls v (skL P H B least a) ok W hT hv (skL_ok _ _ _ _ _) (skL_length _ _ _ _ _) HD.out)
 have C4 := hide (fun W v hv => othersIn_calls v (skL P H B least a) (rtX (skL P H B least a)) W hv (skL_ok _ _ _ _ _) (by rw [skL_length]; omega))
 rw [skL_length] at C4
 have RO : Hid (ok = true → rsOth ok (skL P H B least a) = othE ((skL P H B least a).map epo) (rtX (skL P H B least a)) 5) := fun e => by unfold rsOth; rw [if_pos e]
 have RN : Hid (ok = false → rsOth ok (skL P H B least a) = [] ∧ dcT ok (skL P H B least a) = ⟨#[]⟩) := fun e => ⟨by unfold rsOth; rw [e]; rfl, by unfold dcT; rw [e]; rfl⟩
 have SL := hide (skL_length P H B least a)
 have C2' : Hid (∀ W, RdT W p P → RdT W h H → RdZ W b B → Calls Tryz.prog 47 #[.agg #[p, h, b], .int .i64 (a : Int), .int .i64 least] W fun e w' => ∃ v, e = .returned (.agg #[v, .int .i64 (rtX (skL P H B least a))]) ∧ OwnP w' W.heap.size v (skL P H B least a) ∧ Below W.heap.size W w') := C2.out
 clear C2 ex hok HD HF FT
 generalize rsOth ok (skL P H B least a) = oo at *
 generalize dcT ok (skL P H B least a) = tt at *
 generalize othE ((skL P H B least a).map epo) (rtX (skL P H B least a)) 5 = ot at *
 generalize rtX (skL P H B least a) = r at *
 generalize dcM (skL P H B least a) = dm at *
 generalize skL P H B least a = xs at *
 go_enter Tryz.func9, Tryz.ntmps9
 go_wp2_with fail
 refine (C1.out _ (RP.out.below A0.out.below) (RH.out.below A0.out.below) (RB.out.below A0.out.below)).mono ?_
 rintro e w1 ⟨rfl, q⟩
 have A1 := hide (A0.out.step q)
 clear q A0 c0 c1 c2
 obtain ⟨c0, c1, c2⟩ := (A1.out.atBox 0 rfl).c3
 go_wp2_with fail
 refine (C2'.out _ (RP.out.below A1.out.below) (RH.out.below A1.out.below) (RB.out.below A1.out.below)).mono ?_
 rintro e w2 ⟨v2, rfl, o2, q⟩
 obtain ⟨av, cv, hv2⟩ := row_slice o2
 subst hv2
 have R2 := hide (OwnP.rd o2)
 have A2 := hide ((A1.out.step q).box #[.slice av xs.length cv, .int .i64 r] 83)
 have R2' := hide (R2.out.below (below_box w2 (.cells #[.slice av xs.length cv, .int .i64 r] 83)))
 clear q o2 A1 c0 c1 c2 R2
 have c0 : World.cell? _ ⟨w2.heap.size, 0, none⟩ = some (.slice av xs.length cv) := (A2.out.atBox 0 rfl).cell 0
 have c1 : World.cell? _ ⟨w2.heap.size, 1, none⟩ = some (.int .i64 r) := (A2.out.atBox 0 rfl).cell 1
 go_wp2_with fail
 refine (C3.out _ _ (Gf.Tab.below T.out A2.out.below) R2'.out).mono ?_
 rintro e w3 ⟨v3, rfl, r3, q⟩
 have A3 := hide (A2.out.step q)
 have R3 := hide (R2'.out.below q)
 clear q A2 R2' c0 c1 r3
 cases ok with
 | false =>
  obtain ⟨e1, e2⟩ := RN.out rfl
  subst e1
  subst e2
  go_wp2
  go_ret3
  exact ⟨_, rfl, World.ownsRow_nil _ _ _ _, A3.out.below⟩
 | true =>
  have e1 := RO.out rfl
  subst e1
  have c0 : World.cell? _ ⟨w2.heap.size, 0, none⟩ = some (.slice av xs.length cv) := (A3.out.atBox 0 rfl).cell 0
  have c1 : World.cell? _ ⟨w2.heap.size, 1, none⟩ = some (.int .i64 r) := (A3.out.atBox 0 rfl).cell 1
  go_wp2_with fail
  refine (C4.out _ _ R3.out).mono ?_
  rintro e w4 ⟨v4, rfl, o4, q⟩
  have O4 := hide (Own.mono o4 A3.out.below.size)
  have A4 := hide (A3.out.step q)
  clear q o4 A3 c0 c1
  go_wp2
  go_ret3
  exact ⟨_, rfl, O4.out, A4.out.below⟩
theorem Hand.openTop {W w : World} {t : Tg} {L : List Tg} (A : Hand W w (t :: L)) : ∃ lo hi, t lo hi w ∧ lo ≤ hi ∧ hi ≤ w.heap.size ∧ W.heap.size ≤ lo ∧ ∀ w' t', Tg.st t' → t' lo w'.heap.size w' → Chg lo w.heap.size w w' → Hand W w' (t' :: L) := by
 obtain ⟨hb, lo, hi, ⟨s, x⟩, h1, h2, r⟩ := A
 refine ⟨lo, hi, x, h1, h2, r.base, fun w' t' hs k1 k2 => ?_⟩
 have sz := k2.size
 exact ⟨hb.trans (k2.below r.base hb.size), lo, w'.heap.size, ⟨hs, k1⟩, by omega, Nat.le_refl _, HeldG.chg k2 r (Nat.le_refl _)⟩
structure Two (w : World) (lo hi : Nat) (u v : Value) (X Y : List Int) : Prop where
 a : Own w lo u X
 b : Own w lo v Y
 ta : ∀ k, u.ownBlock = some k → k < hi
 tb : ∀ k, v.ownBlock = some k → k < hi
 ne : u.ownBlock = none ∨ u.ownBlock ≠ v.ownBlock
def TTwo (u v : Value) (X Y : List Int) : Tg := fun lo hi w => Two w lo hi u v X Y
theorem TTwo.st (u v : Value) (X Y : List Int) : (TTwo u v X Y).st := fun lo hi a b w w' h hc hd => ⟨ownsRow_chg h.a h.ta hc hd, ownsRow_chg h.b h.tb hc hd, h.ta, h.tb, h.ne⟩
theorem Two.nil (w : World) (lo hi : Nat) : Two w lo hi (.slice none 0 0) (.slice none 0 0) [] [] :=
 ⟨World.ownsRow_nil _ _ _ _, World.ownsRow_nil _ _ _ _, fun k hk => by simp [Value.ownBlock] at hk, fun k hk => by simp [Value.ownBlock] at hk, .inl rfl⟩
theorem ne_swap {a b : Option Nat} (h : a = none ∨ a ≠ b) : b = none ∨ b ≠ a := by
 rcases h with h | h
 ·cases b with
  | none => exact .inl rfl
  | some x => right; rw [h]; simp
 ·exact .inr (fun e => h e.symm)
theorem Two.swap {w : World} {lo hi : Nat} {u v : Value} {X Y : List Int} (h : Two w lo hi u v X Y) : Two w lo hi v u Y X := ⟨h.b, h.a, h.tb, h.ta, ne_swap h.ne⟩
theorem Two.grow {w w' : World} {lo hi g n cap : Nat} {u v : Value} {X Y : List Int} {z : Int} (h : Two w lo hi u v X Y) (hh : hi ≤ w.heap.size)
    (h1 : w'.ownsRow lo 3 1 (.slice (some ⟨g, 0, none⟩) (n + 1) cap) (n + 1) (X.map (Value.int .i64) ++ [Value.int .i64 z])) (hn : X.length = n) (h2 : w.grownBy w' u.ownBlock) (h3 : u.ownBlock = some g ∨ g = w.heap.size) (h4 : g < w'.heap.size) :
    Two w' lo w'.heap.size (.slice (some ⟨g, 0, none⟩) (n + 1) cap) v (X ++ [z]) Y ∧ Chg lo w.heap.size w w' := by
 have hs : w.heap.size ≤ w'.heap.size := h2.size
 refine ⟨⟨?_, World.ownsRow.kept h.b h2 (ne_swap h.ne), fun k hk => ?_, fun k hk => ?_, .inr ?_⟩, Chg.ofGrown h2 fun k hk => ⟨row_low h.a k hk, by have := h.ta k hk; omega⟩⟩
 ·show World.ownsRow _ _ _ _ _ (X ++ [z]).length _
  rw [List.length_append, hn, List.map_append]
  exact h1
 ·simp [Value.ownBlock] at hk
  omega
 ·have := h.tb k hk
  omega
 ·show some g ≠ v.ownBlock
  rcases h3 with h3 | h3
  ·rcases h.ne with e | e
   ·rw [h3] at e; simp at e
   ·rw [← h3]; exact e
  ·intro e
   have := h.tb g e.symm
   omega
theorem hlInfo : (Tryz.prog.info? 36).map (·.size) = some 3 := by kernel_rfl
theorem res_hl {fn : Func} {x : Tmp} (hf : fn.results = #[.cell x 36]) (tmps : Array Value) (w : World) (g : Nat) (p h b : Value) (fr : Nat × Nat) (hp : tmps.getD x undef = .pointer (some ⟨g, 0, none⟩))
    (hg : w.heap[g]? = some (.cells #[p, h, b] 36 fr)) : (results fn tmps).run Tryz.prog w = .ok (.agg #[p, h, b]) w :=
 results_cell_row hf tmps w g _ _ fr _ hp hg Tryz.underlying36 rfl hlInfo
theorem res_hl2 {fn : Func} {x u : Tmp} (hf : fn.results = #[.cell x 36, .tmp u]) (tmps : Array Value) (w : World) (g : Nat) (p h b : Value) (fr : Nat × Nat) (hp : tmps.getD x undef = .pointer (some ⟨g, 0, none⟩))
    (hg : w.heap[g]? = some (.cells #[p, h, b] 36 fr)) : (results fn tmps).run Tryz.prog w = .ok (.tuple #[.agg #[p, h, b], tmps.getD u undef]) w := by
 have hp' : tmps[x]?.getD undef = .pointer (some ⟨g, 0, none⟩) := by simpa using hp
 simp [results, hf, hp', asAddr, run_loadVar_row w g _ _ _ fr _ hg Tryz.underlying36 rfl hlInfo]
theorem Hand.set3 {W w : World} {L : List Tg} {g : Nat} {a b c : Value} {T : TypeId} (h : Hand W w L) (i : Nat) (hi : L[i]? = some (TBox g #[a, b, c] T)) (j : Nat) (v : Value) : Hand W (w.setCell ⟨g, j, none⟩ v) (L.set i (TBox g (#[a, b, c].setIfInBounds j v) T)) := by
 obtain ⟨lo, hi', ⟨x1, x2, x3⟩, y1, y2, put⟩ := h.open i hi
 exact put _ _ (TBox.st _ _ _) ⟨x1, x2, x3.set j v⟩ (Chg.ofSetCell _ _ _ _ x1 x2)
theorem Hand.put3 {W w : World} {L : List Tg} {g : Nat} {a b c : Value} {T : TypeId} (h : Hand W w L) (i : Nat) (hi : L[i]? = some (TBox g #[a, b, c] T)) (v0 v1 v2 : Value) : Hand W (((w.setCell ⟨g, 0, none⟩ v0).setCell ⟨g, 1, none⟩ v1).setCell ⟨g, 2, none⟩ v2) (L.set i (TBox g #[v0, v1, v2] T)) := by
 obtain ⟨lo, hi', ⟨x1, x2, x3⟩, y1, y2, put⟩ := h.open i hi
 exact put _ _ (TBox.st _ _ _) ⟨x1, x2, x3.store3 v0 v1 v2⟩ (Chg.store3 _ _ _ _ _ x1 x2)
theorem healthIn_calls (v : Value) (xs : List Pc) (r : Int) (w : World) (h : RdP w v xs) (hok : ∀ k, okP (xs.getD k none)) (hl : xs.length ≤ 24) :
    Calls Tryz.prog 50 #[.agg #[v, .int .i64 r]] w fun e w' => ∃ vl vs, e = .returned (.agg #[vl, vs, .bool (decide ((losE (xs.map epo) xs.length).length = 0 ∧ (staE (xs.map epo) r xs.length).length = 0))]) ∧ Two w' w.heap.size w'.heap.size vl vs (losE (xs.map epo) xs.length) (staE (xs.map epo) r xs.length) ∧ Below w.heap.size w w' := by
 have R := hide h
 have OK := hide hok
 obtain ⟨a, cap, rfl, m1, _⟩ := h.sl
 clear h hok m1
 obtain ⟨lo, hlo⟩ : ∃ lo : Nat → List Int, lo = losE (xs.map epo) := ⟨_, rfl⟩
 obtain ⟨st, hst⟩ : ∃ st : Nat → List Int, st = staE (xs.map epo) r := ⟨_, rfl⟩
 have l0 : lo 0 = [] := by rw [hlo]; rfl
 have s0 : st 0 = [] := by rw [hst]; rfl
 have ls : ∀ k, k < xs.length → lo (k + 1) = if epo (xs.getD k none) < 0 then lo k ++ [(k : Int)] else lo k := by
  intro k hk
  rw [hlo]
  show (if decide ((xs.map epo).getD k 0 < 0) = true then _ else _) = _
  rw [map_getD xs k hk]
  simp only [decide_eq_true_eq]
  rfl
 have ss : ∀ k, k < xs.length → st (k + 1) = if 0 ≤ epo (xs.getD k none) ∧ ¬ epo (xs.getD k none) = r then st k ++ [(k : Int)] else st k := by
  intro k hk
  rw [hst]
  show (if decide (0 ≤ (xs.map epo).getD k 0 ∧ ¬ (xs.map epo).getD k 0 = r) = true then _ else _) = _
  rw [map_getD xs k hk]
  simp only [decide_eq_true_eq]
  rfl
 have ll : ∀ k, (lo k).length ≤ k := by intro k; rw [hlo]; exact pkE_le _ _ _
 have sl : ∀ k, (st k).length ≤ k := by intro k; rw [hst]; exact pkE_le _ _ _
 rw [← hlo, ← hst]
 have L0 := hide l0
 have S0 := hide s0
 have LS := hide ls
 have SS := hide ss
 have LL := hide ll
 have SL := hide sl
 clear hlo hst l0 s0 ls ss ll sl
 obtain ⟨rr, hr⟩ : ∃ rr : Bool, rr = decide ((lo xs.length).length = 0 ∧ (st xs.length).length = 0) := ⟨_, rfl⟩
 rw [← hr]
 have HR := hide hr
 clear hr
 have A0 : Hid (Hand w (((w.alloc (.cells #[.slice a xs.length cap, .int .i64 r] 83)).alloc (.cells #[.slice none 0 0, .slice none 0 0, .bool false] 36)).alloc (.cells #[.slice none 0 0, .slice none 0 0, .bool false] 36)) [TTwo (.slice none 0 0) (.slice none 0 0) [] [], TBox (w.heap.size + 1 + 1) #[.slice none 0 0, .slice none 0 0, .bool false] 36, TBox (w.heap.size + 1) #[.slice none 0 0, .slice none 0 0, .bool false] 36, TBox w.heap.size #[.slice a xs.length cap, .int .i64 r] 83]) := by
  show Hand _ _ _
  have := ((((Hand.start w).box #[.slice a xs.length cap, .int .i64 r] 83).box #[.slice none 0 0, .slice none 0 0, .bool false] 36).box #[.slice none 0 0, .slice none 0 0, .bool false] 36).add (Below.refl _ _) (TTwo.st (.slice none 0 0) (.slice none 0 0) [] []) (Two.nil _ _ _)
  simpa using this
 go_enter Tryz.func50, Tryz.ntmps50
 go_wp2
 go_loopw [4, 5, 6, 7, 12] (fun _ _ _ _ vi wr => ∃ (k : Nat) (vl vs : Value), k ≤ xs.length ∧ vi = .int .i64 k ∧ Hand w wr [TTwo vl vs (lo k) (st k), TBox (w.heap.size + 1 + 1) #[vl, vs, .bool false] 36, TBox (w.heap.size + 1) #[.slice none 0 0, .slice none 0 0, .bool false] 36, TBox w.heap.size #[.slice a xs.length cap, .int .i64 r] 83]) (fun _ _ _ _ vi _ => xs.length - (intOf vi).toNat)
 case atStart =>
  refine ⟨0, .slice none 0 0, .slice none 0 0, Nat.zero_le _, rfl, ?_⟩
  rw [L0.out, S0.out]
  exact A0.out
 case round =>
  clear A0
  obtain ⟨k, vl, vs, hk, rfl, hH⟩ := hrel
  have AH := hide hH
  obtain ⟨zl, zh, tw⟩ := hH.get 0 rfl
  obtain ⟨al, cl, rfl⟩ := row_slice tw.a
  obtain ⟨asx, csx, rfl⟩ := row_slice tw.b
  clear tw hH zl zh
  have l1 := LL.out k
  have s1 := SL.out k
  by_cases hlt : k < xs.length
  ·obtain ⟨gb, off, rfl, hc, _⟩ := (R.out.below AH.out.below).cell k hlt
   have hlt' : (k : Int) < (xs.length : Int) := by omega
   have E1 := hide (LS.out k hlt)
   have E2 := hide (SS.out k hlt)
   have O := hide (OK.out k)
   generalize xs.getD k none = x at hc E1 E2 O
   cases x with
   | none =>
    have e1 : Hid (lo (k + 1) = lo k ++ [(k : Int)]) := by show _ = _; rw [E1.out, if_pos (by simp [epo])]
    have e2 : Hid (st (k + 1) = st k) := by show _ = _; rw [E2.out, if_neg (by simp [epo])]
    clear E1 E2 O
    have hc' : wr.cell? ⟨gb, off + k, none⟩ = some (.iface 128 (.agg #[])) := hc
    clear hc
    have f1 := asL_yes (.agg #[])
    have A1 := hide ((AH.out.step (below_box wr (.cells #[] 128))).step (below_box _ (.cells #[.int .i64 (k : Int)] 3)))
    obtain ⟨b0, b1, b2⟩ := ((AH.out.step (below_box wr (.cells #[] 128))).atBox 1 rfl).c3
    have hcn : ((wr.alloc (.cells #[] 128)).alloc (.cells #[.int .i64 (k : Int)] 3)).cell? ⟨wr.heap.size + 1, 0, none⟩ = some (.int .i64 (k : Int)) := by
     simp
    obtain ⟨zl, zh, tw, t1, t2, t3, put⟩ := A1.out.openTop
    have TW := hide tw
    have PUT := hide put
    clear tw put
    go_wp2_with (at_builtin; refine wpList_append_int1 rfl _ _ rfl zl _ (lo k).length (lo k) k rfl TW.out.a (wr.heap.size + 1) rfl hcn (by omega) (by omega) ?_)
    intro g2 cap2 w2 o2 p2 q2 r2
    obtain ⟨tw2, ch2⟩ := TW.out.grow t2 o2 rfl p2 (by simpa using q2) r2
    have A2 := hide (PUT.out w2 (TTwo _ _ _ _) (TTwo.st _ _ _ _) tw2 ch2)
    have A3 := hide (A2.out.set3 1 rfl 0 (.slice (some ⟨g2, 0, none⟩) ((lo k).length + 1) cap2))
    obtain ⟨d0, d1, d2⟩ := (A2.out.atBox 1 rfl).c3
    have e0 := (A2.out.atBox 1 rfl).frozen 0
    clear o2 p2 q2 r2 tw2 ch2 TW PUT hcn A1 AH b0 b1 b2 A2
    go_wp2
    go_roundw
    case rel =>
     refine ⟨k + 1, .slice (some ⟨g2, 0, none⟩) ((lo k).length + 1) cap2, .slice asx (st k).length csx, by omega, by go_num, ?_⟩
     rw [e1.out, e2.out]
     have := A3.out
     simpa using this
    case measure => simp [intOf]; omega
   | some y =>
    obtain ⟨E, bo⟩ := y
    have y0 := (O.out _ rfl).1.1
    have e1 : Hid (lo (k + 1) = lo k) := by show _ = _; rw [E1.out, if_neg (by simp only [epo]; omega)]
    have E2' : Hid (st (k + 1) = if 0 ≤ E ∧ ¬ E = r then st k ++ [(k : Int)] else st k) := E2.out
    clear E1 E2 O
    have hc' : wr.cell? ⟨gb, off + k, none⟩ = some (.iface 130 (.agg #[.int .i64 E, .string bo])) := hc
    clear hc
    have f1 := asL_no (.agg #[.int .i64 E, .string bo])
    have f2 := asF_yes (.agg #[.int .i64 E, .string bo])
    have A1 := hide (AH.out.step (below_box wr (.cells #[.int .i64 E, .string bo] 130)))
    have sx := AH.out.atBox 3 rfl
    have sx1 : wr.cell? ⟨w.heap.size, 1, none⟩ = some (.int .i64 r) := sx.cell 1
    have sxl := sx.lt
    have sx2 : (wr.alloc (.cells #[.int .i64 E, .string bo] 130)).cell? ⟨w.heap.size, 1, none⟩ = some (.int .i64 r) := (A1.out.atBox 3 rfl).cell 1
    have cx0 : (wr.alloc (.cells #[.int .i64 E, .string bo] 130)).cell? ⟨wr.heap.size, 0, none⟩ = some (.int .i64 E) := (BoxAt.new wr #[.int .i64 E, .string bo] 130).cell 0
    clear sx
    by_cases hE : E = r
    ·have e2 : Hid (st (k + 1) = st k) := by show _ = _; rw [E2'.out, if_neg (fun h => h.2 hE)]
     subst hE
     clear E2'
     go_wp2
     go_roundw
     case rel =>
      refine ⟨k + 1, .slice al (lo k).length cl, .slice asx (st k).length csx, by omega, by go_num, ?_⟩
      rw [e1.out, e2.out]
      exact A1.out
     case measure => simp [intOf]; omega
    ·have e2 : Hid (st (k + 1) = st k ++ [(k : Int)]) := by show _ = _; rw [E2'.out, if_pos ⟨y0, hE⟩]
     have hE' : (E == r) = false := by simpa using hE
     have hE2 : (E != r) = true := by simpa using hE
     clear E2'
     have A2 := hide (A1.out.step (below_box _ (.cells #[.int .i64 (k : Int)] 3)))
     obtain ⟨b0, b1, b2⟩ := (A1.out.atBox 1 rfl).c3
     have hcn : ((wr.alloc (.cells #[.int .i64 E, .string bo] 130)).alloc (.cells #[.int .i64 (k : Int)] 3)).cell? ⟨wr.heap.size + 1, 0, none⟩ = some (.int .i64 (k : Int)) := by
      simp
     obtain ⟨zl, zh, tw, t1, t2, t3, put⟩ := A2.out.openTop
     have TW := hide tw
     have PUT := hide put
     clear tw put
     go_wp2_with (at_builtin; refine wpList_append_int1 rfl _ _ rfl zl _ (st k).length (st k) k rfl TW.out.b (wr.heap.size + 1) rfl hcn (by omega) (by omega) ?_)
     intro g2 cap2 w2 o2 p2 q2 r2
     obtain ⟨tw2, ch2⟩ := TW.out.swap.grow t2 o2 rfl p2 (by simpa using q2) r2
     have A3 := hide (PUT.out w2 (TTwo _ _ _ _) (TTwo.st _ _ _ _) tw2.swap ch2)
     have A4 := hide (A3.out.set3 1 rfl 1 (.slice (some ⟨g2, 0, none⟩) ((st k).length + 1) cap2))
     obtain ⟨d0, d1, d2⟩ := (A3.out.atBox 1 rfl).c3
     have e0 := (A3.out.atBox 1 rfl).frozen 1
     clear o2 p2 q2 r2 tw2 ch2 TW PUT hcn A1 A2 AH b0 b1 b2 A3
     go_wp2
     go_roundw
     case rel =>
      refine ⟨k + 1, .slice al (lo k).length cl, .slice (some ⟨g2, 0, none⟩) ((st k).length + 1) cap2, by omega, by go_num, ?_⟩
      rw [e1.out, e2.out]
      have := A4.out
      simpa using this
     case measure => simp [intOf]; omega
  ·obtain rfl : k = xs.length := by omega
   have TT : Hid (∃ lo' hi', Two wr lo' hi' (.slice al (lo xs.length).length cl) (.slice asx (st xs.length).length csx) (lo xs.length) (st xs.length)) := AH.out.get 0 rfl
   obtain ⟨b0, b1, b2⟩ := (AH.out.atBox 1 rfl).c3
   have f2 := (AH.out.atBox 1 rfl).frozen 2
   have A1 := hide ((AH.out.set3 1 rfl 2 (.bool rr)).put3 2 rfl (.slice al (lo xs.length).length cl) (.slice asx (st xs.length).length csx) (.bool rr))
   obtain ⟨x0, x1, x2⟩ := ((AH.out.set3 1 rfl 2 (.bool rr)).atBox 1 rfl).c3
   obtain ⟨d0, d1, d2⟩ := ((AH.out.set3 1 rfl 2 (.bool rr)).atBox 2 rfl).c3
   have g0 := ((AH.out.set3 1 rfl 2 (.bool rr)).atBox 2 rfl).frozen 0
   have g1 := ((AH.out.set3 1 rfl 2 (.bool rr)).atBox 2 rfl).frozen 1
   have g2 := ((AH.out.set3 1 rfl 2 (.bool rr)).atBox 2 rfl).frozen 2
   clear TT
   generalize hnl : (lo xs.length).length = nl at *
   generalize hns : (st xs.length).length = ns at *
   have HNL := hide hnl
   have HNS := hide hns
   clear hnl hns
   have fin : Hid (∀ W, W = (((wr.setCell ⟨w.heap.size + 1 + 1, 2, none⟩ (.bool rr)).setCell ⟨w.heap.size + 1, 0, none⟩ (.slice al nl cl)).setCell ⟨w.heap.size + 1, 1, none⟩ (.slice asx ns csx)).setCell ⟨w.heap.size + 1, 2, none⟩ (.bool rr) → BoxAt W (w.heap.size + 1) #[.slice al nl cl, .slice asx ns csx, .bool rr] 36 ∧ Two W w.heap.size W.heap.size (.slice al nl cl) (.slice asx ns csx) (lo xs.length) (st xs.length) ∧ Below w.heap.size w W) := by
    rintro W rfl
    refine ⟨A1.out.atBox 2 rfl, ?_, A1.out.below⟩
    obtain ⟨z1, z2, tt, z3, z4, _⟩ := A1.out.open 0 rfl
    exact ⟨ownsRow_mono tt.a z3, ownsRow_mono tt.b z3, fun k hk => Nat.lt_of_lt_of_le (tt.ta k hk) z4, fun k hk => Nat.lt_of_lt_of_le (tt.tb k hk) z4, tt.ne⟩
   by_cases h1 : nl = 0
   ·by_cases h2 : ns = 0
    ·have er : rr = true := by rw [HR.out]; exact decide_eq_true ⟨h1, h2⟩
     subst er
     subst h1
     subst h2
     go_wp2
     obtain ⟨y1, y2, y3⟩ := fin.out _ rfl
     exact bodyPost_ret (res_hl rfl _ _ (w.heap.size + 1) _ _ _ (0, 0) rfl y1) rfl ⟨_, _, rfl, y2, y3⟩
    ·have er : rr = false := by rw [HR.out]; exact decide_eq_false (fun h => h2 h.2)
     subst er
     subst h1
     have h2' : ¬ (ns : Int) = 0 := by omega
     have h2'' : ((ns : Int) == 0) = false := by simpa using h2'
     go_wp2
     obtain ⟨y1, y2, y3⟩ := fin.out _ rfl
     exact bodyPost_ret (res_hl rfl _ _ (w.heap.size + 1) _ _ _ (0, 0) rfl y1) rfl ⟨_, _, rfl, y2, y3⟩
   ·have er : rr = false := by rw [HR.out]; exact decide_eq_false (fun h => h1 h.1)
    subst er
    have h1' : ¬ (nl : Int) = 0 := by omega
    have h1'' : ((nl : Int) == 0) = false := by simpa using h1'
    go_wp2
    obtain ⟨y1, y2, y3⟩ := fin.out _ rfl
    exact bodyPost_ret (res_hl rfl _ _ (w.heap.size + 1) _ _ _ (0, 0) rfl y1) rfl ⟨_, _, rfl, y2, y3⟩
end Go.Proofs.YthdbacihhmilbaaGreatDoor
