/-
  A stripe decoded: the program's othersIn, the pieces' elements, decodeStripe and ReadStripe. The program's table of rests must hold its seven numbers where the program's own functions are called. A stripe read: the program's othersIn, decodeStripe and ReadStripe. The program's table of rests must hold its seven numbers where the program's own functions are called. A stripe's health: the program's healthIn and HealthOf. Each contract says what it asks. What a sector tells, by the model: l7Read, call by call. The contract says what it asks.
-/
import Derived.Test.YtbgadbokejaomaaGreatDoorDamageOfB14
import Derived.Test.YtbgadbokejaomaaGreatDoorDamageOfB23
import Derived.Test.YtbgadbokejaomaaGreatDoorDamageOfB30
import Derived.Test.YtbgadbokejaomaaGreatDoorDamageOfB11
namespace Go.Proofs.YtbgadbokejaomaaGreatDoor
open Go.RowKit
open Gf (ci nat)
set_option linter.unusedVariables false

theorem RdP.slP {w : World} {v : Value} {xs : List Pc} (h : RdP w v xs) : ∃ a cap, v = .slice a xs.length cap ∧ xs.length ≤ cap := by
  obtain ⟨a, cap, rfl, h1, _⟩ := h
  exact ⟨a, cap, rfl, h1⟩
theorem RdP.cellP {w : World} {a : Option Addr} {n cap : Nat} {xs : List Pc} (h : RdP w (.slice a n cap) xs) (k : Nat) (hk : k < xs.length) : ∃ b off, a = some ⟨b, off, none⟩ ∧ w.cell? ⟨b, off + k, none⟩ = some (pv (xs.getD k none)) := by
  obtain ⟨b, off, h1, h2, _⟩ := h.cell k hk
  exact ⟨b, off, h1, h2⟩

set_option maxRecDepth 100000 in
theorem elemsLost_calls (w : World) : Calls Tryz.prog 284 #[.agg #[]] w fun e w' => ∃ v', e = .returned v' ∧ Own w' w.heap.size v' (List.replicate 16 0) ∧ Below w.heap.size w w' := by
  have B0 := hide (below_box w (.cells #[] 149))
  go_enter Tryz.func284, Tryz.ntmps284
  go_wp2_with (at_make; refine wpList_make_ints rfl _ _ rfl _ _ _ 16 rfl rfl (by omega) (by omega) (by omega) (Nat.le_refl _) ?_)
  intro w0 ho0 hg0
  have O0 := hide ho0
  have B1 := hide (B0.out.grown hg0 (by simp) (fun k h => by cases h))
  clear ho0 hg0
  go_wp2
  go_ret
  exact ⟨_, rfl, Own.mono O0.out (by simp), B1.out⟩
set_option maxRecDepth 100000 in
theorem elemsFramed_calls (E : Int) (s : ByteArray) (w : World) (hs : s.size ≤ 4096) : Calls Tryz.prog 285 #[.agg #[.int .i64 E, .string s]] w fun e w' => ∃ v', e = .returned v' ∧ Own w' w.heap.size v' (ci (bs s)) ∧ Below w.heap.size w w' := by
  have B0 := hide (below_box w (.cells #[.int .i64 E, .string s] 151))
  have C := hide (fun W => elementsOf_calls s W hs)
  go_enter Tryz.func285, Tryz.ntmps285
  go_wp2_with fail
  refine (C.out _).mono ?_
  rintro e w1 ⟨v1, rfl, o, q⟩
  have O := hide o
  have B1 := hide (B0.out.trans (q.mono B0.out.size))
  clear o q
  go_wp2
  go_ret
  exact ⟨_, rfl, Own.mono O.out (by simp), B1.out⟩
set_option maxRecDepth 100000 in
theorem elems_calls (x : Pc) (w : World) (hx : okP x) : Calls Tryz.prog 152 #[pv x] w fun e w' => ∃ v', e = .returned v' ∧ Own w' w.heap.size v' (ci (bdo x)) ∧ Below w.heap.size w w' := by
  cases x with
  | none =>
    show Calls _ _ #[.iface 149 (.agg #[])] _ _
    have e0 : ci (bdo none) = List.replicate 16 0 := by simp [ci, bdo]
    rw [e0]
    clear e0
    have hm : ∀ W : World, (method 376 149 (.agg #[]) "loop.example/g00405/impl.elements").run Tryz.prog W = .ok (284, .agg #[]) W := fun _ => by kernel_rfl
    have C := hide (fun W => elemsLost_calls W)
    go_enter Tryz.func152, Tryz.ntmps152
    go_wp2_with fail
    refine (C.out _).mono ?_
    rintro e w1 ⟨v1, rfl, o, q⟩
    have O := hide o
    have B1 := hide q
    clear o q
    go_wp2
    go_ret
    exact ⟨_, rfl, O.out, B1.out⟩
  | some y =>
    obtain ⟨E, s⟩ := y
    have hs := (hx _ rfl).2
    show Calls _ _ #[.iface 151 (.agg #[.int .i64 E, .string s])] _ fun e w' => ∃ v', e = .returned v' ∧ Own w' w.heap.size v' (ci (bs s)) ∧ _
    have hm : ∀ W : World, (method 376 151 (.agg #[.int .i64 E, .string s]) "loop.example/g00405/impl.elements").run Tryz.prog W = .ok (285, .agg #[.int .i64 E, .string s]) W := fun _ => by kernel_rfl
    have C := hide (fun W => elemsFramed_calls E s W (by simp only [] at hs; omega))
    clear hs
    go_enter Tryz.func152, Tryz.ntmps152
    go_wp2_with fail
    refine (C.out _).mono ?_
    rintro e w1 ⟨v1, rfl, o, q⟩
    have O := hide o
    have B1 := hide q
    clear o q
    go_wp2
    go_ret
    exact ⟨_, rfl, O.out, B1.out⟩

set_option maxRecDepth 100000 in
set_option maxHeartbeats 1600000 in
theorem eachPiece_calls (v : Value) (xs : List Pc) (w : World) (h : RdP w v xs) (hok : ∀ k, okP (xs.getD k none)) (hn : xs.length ≤ 4096) :
    Calls Tryz.prog 151 #[v, .func (.func 152) #[] #[]] w fun e w' => ∃ v', e = .returned v' ∧ RdM w' v' (xs.map (fun x : Pc => ci (bdo x))) ∧ Below w.heap.size w w' := by
  have R := hide h
  have OK := hide hok
  obtain ⟨m, hm⟩ : ∃ m, m = xs.map (fun x : Pc => ci (bdo x)) := ⟨_, rfl⟩
  have ml : m.length = xs.length := by rw [hm, List.length_map]
  have mg : ∀ k, k < xs.length → m.getD k [] = (fun x : Pc => ci (bdo x)) (xs.getD k none) := fun k hk => by
    rw [hm]
    simp only [List.getD_eq_getElem?_getD]
    rw [List.getElem?_map, List.getElem?_eq_getElem hk]
    rfl
  rw [← hm]
  have ML := hide ml
  have MG := hide mg
  obtain ⟨a, cap, rfl, m1⟩ := h.slP
  clear h hm ml mg m1
  go_enter Tryz.func151, Tryz.ntmps151
  go_wp2_with (at_make; refine wpList_make_rows rfl _ _ rfl _ _ xs.length rfl rfl (by omega) (by omega) (by omega) ?_)
  intro w0 hm0 hg0
  have M0 := hide hm0.head
  have B0 := hide ((Below.refl w.heap.size w).grown hg0 (Nat.le_refl _) (fun k h => by cases h))
  clear hm0 hg0
  go_wp2
  go_loopw [6, 7, 13] (fun _ _ vi wr => ∃ us : List Value, us.length ≤ xs.length ∧ vi = .int .i64 us.length ∧ wr.ownsRow w.heap.size 27 1 (.slice (some ⟨w.heap.size, 0, none⟩) xs.length xs.length) xs.length (padU us xs.length) ∧ (∀ i, i < us.length → Own wr (w.heap.size + 1) (us.getD i nilRow) (m.getD i [])) ∧ Below w.heap.size w wr) (fun _ _ vi _ => xs.length - (intOf vi).toNat)
  case atStart =>
    refine ⟨[], Nat.zero_le _, rfl, ?_, fun i hi => by simp at hi, B0.out⟩
    have := M0.out
    rw [List.length_replicate] at this
    exact this
  case round =>
    obtain ⟨us, hk, rfl, ho, hus, hb⟩ := hrel
    have O := hide ho
    have US := hide hus
    have B := hide hb
    clear ho hus hb
    by_cases hlt : us.length < xs.length
    · have hlt' : (us.length : Int) < (xs.length : Int) := by omega
      have hd1 : w.heap.size + 1 ≤ wr.heap.size := (World.ownsRow.lt O.out w.heap.size rfl).2
      obtain ⟨gb, off, rfl, hc⟩ := (R.out.below B.out).cellP us.length hlt
      have G := hide (MG.out us.length hlt)
      obtain ⟨z, hz⟩ : ∃ z, z = xs.getD us.length none := ⟨_, rfl⟩
      have C := hide (fun W => elems_calls (xs.getD us.length none) W (OK.out us.length))
      have hpv := pv_iface (xs.getD us.length none)
      rw [← hz] at C hc G hpv
      obtain ⟨pt, py, hpy⟩ := hpv
      rw [hpy] at C hc
      clear hz
      go_wp2_with fail
      refine (C.out _).mono ?_
      rintro e w1 ⟨x, rfl, hx, q⟩
      rw [← G.out] at hx
      have X := hide hx
      obtain ⟨xa, xc, rfl⟩ := row_slice hx
      have O1 := hide (ownsRow_below O.out q)
      have B1 := hide (B.out.trans (q.mono B.out.size))
      have US1 : Hid (∀ i, i < us.length → Own w1 (w.heap.size + 1) (us.getD i nilRow) (m.getD i [])) := fun i hi => (US.out i hi).below q
      clear hx q hc
      generalize hxn : (m.getD us.length []).length = xn at *
      have XN := hide hxn
      clear hxn
      have hpl : us.length < (padU us xs.length).length := by rw [padU_length _ _ hk]; exact hlt
      have hc2 : w1.frozen? ⟨w.heap.size, us.length, none⟩ = false := O1.out.frozenAt us.length
      obtain ⟨old, hc3⟩ : ∃ old, w1.cell? ⟨w.heap.size, us.length, none⟩ = some old := by
        rw [O1.out.cellAt us.length (by omega)]
        exact ⟨_, List.getElem?_eq_getElem hpl⟩
      have ST := hide (O1.out.stored us.length (.slice xa xn xc))
      clear O US G
      go_wp2
      go_roundw
      case rel =>
        refine ⟨us ++ [.slice xa xn xc], by simp; omega, by simp, ?_, fun i hi => ?_, B1.out.setCell (Nat.le_refl _) _⟩
        · have := ST.out.1
          rw [padU_set us xs.length _ hlt] at this
          exact this
        · have kept : ∀ (u : Value) (l : List Int), Own w1 (w.heap.size + 1) u l → Own (w1.setCell ⟨w.heap.size, us.length, none⟩ (.slice xa xn xc)) (w.heap.size + 1) u l := fun u l hu => World.ownsRow.kept hu ST.out.2 (by
            cases hb : u.ownBlock with
            | none => exact .inl rfl
            | some z =>
              right
              have := (World.ownsRow.lt hu z hb).1
              intro e
              simp only [Option.some.injEq] at e
              omega)
          by_cases e : i < us.length
          · have : (us ++ [Value.slice xa xn xc]).getD i nilRow = us.getD i nilRow := by simp only [List.getD_eq_getElem?_getD]; rw [List.getElem?_append_left e]
            rw [this]
            exact kept _ _ (US1.out i e)
          · have e2 : i = us.length := by simp at hi; omega
            subst e2
            have : (us ++ [Value.slice xa xn xc]).getD us.length nilRow = .slice xa xn xc := by simp
            rw [this]
            exact kept _ _ (Own.mono X.out hd1)
      case measure => simp [intOf]; omega
    · have e : us.length = xs.length := by omega
      go_wp2
      go_ret
      refine ⟨_, rfl, ?_, B.out⟩
      have ho := O.out
      have ep : padU us xs.length = us := by unfold padU; rw [show xs.length - us.length = 0 by omega, List.replicate_zero, List.append_nil]
      rw [ep] at ho
      have hc : xs.length ≤ maxLen := by unfold maxLen; omega
      have hlt : w.heap.size < wr.heap.size := (World.ownsRow.lt ho w.heap.size rfl).2
      refine ⟨some ⟨w.heap.size, 0, none⟩, xs.length, by rw [ML.out]; rfl, by rw [ML.out]; exact Nat.le_refl _, ⟨hc, fun h => by cases h⟩, .inr ⟨w.heap.size, 0, rfl, hlt, fun i hi => ?_⟩⟩
      rw [ML.out] at hi
      refine ⟨us.getD i nilRow, ?_, (US.out i (by omega)).rd⟩
      rw [Nat.zero_add, World.ownsRow.cellAt ho i (by omega), List.getD_eq_getElem?_getD, List.getElem?_eq_getElem (by omega)]
      rfl
end Go.Proofs.YtbgadbokejaomaaGreatDoor

namespace Go.Proofs.YtbgadbokejaomaaGreatDoor
open Go.RowKit
open Gf (ci nat)
set_option linter.unusedVariables false

set_option maxRecDepth 100000 in
set_option maxHeartbeats 1600000 in
theorem othersIn_calls (v : Value) (xs : List Pc) (r : Int) (w : World) (h : RdP w v xs) (hok : ∀ k, okP (xs.getD k none)) (hl : xs.length ≤ 24) :
    Calls Tryz.prog 108 #[.agg #[v, .int .i64 r]] w fun e w' => ∃ v', e = .returned v' ∧ Own w' w.heap.size v' (othE (xs.map epo) r xs.length) ∧ Below w.heap.size w w' := by
  have OK := hide hok
  obtain ⟨W0, hW⟩ : ∃ W0, W0 = w.alloc (.cells #[v, .int .i64 r] 110) := ⟨_, rfl⟩
  have b0 : Below w.heap.size w W0 := by rw [hW]; exact below_box _ _
  have bx : BoxAt W0 w.heap.size #[v, .int .i64 r] 110 := by rw [hW]; exact BoxAt.new _ _ _
  have R := hide (h.below b0)
  obtain ⟨a, cap, rfl, m1, _⟩ := h.sl
  have BX := hide bx
  have BW := hide b0
  have HW := hide hW
  obtain ⟨ot, hot⟩ : ∃ ot : Nat → List Int, ot = othE (xs.map epo) r := ⟨_, rfl⟩
  have o0 : ot 0 = [] := by rw [hot]; rfl
  have os : ∀ k, k < xs.length → ot (k + 1) = if isE r (epo (xs.getD k none)) = true then ot k else ot k ++ [(k : Int)] := by
    intro k hk
    rw [hot]
    show (if (!isE r ((xs.map epo).getD k 0)) = true then _ else _) = _
    rw [map_getD xs k hk]
    cases isE r (epo (xs.getD k none)) <;> rfl
  have ol : ∀ k, (ot k).length ≤ k := by intro k; rw [hot]; exact pkE_le _ _ _
  rw [← hot]
  have O0 := hide o0
  have OS := hide os
  have OL := hide ol
  have OI : Hid ((W0.alloc (.cells #[] 3)).ownsRow W0.heap.size 3 1 (.slice (some ⟨W0.heap.size, 0, none⟩) 0 0) 0 (([] : List Int).map (Value.int .i64))) := by
    show World.ownsRow _ _ _ _ _ _ _
    have := World.ownsRow_lit (base := W0.heap.size) (e := 3) (size := 1) W0 #[] 0 (Nat.le_refl _) (by unfold maxLen; omega) (by simp)
    simpa using this
  have BI := hide (below_box W0 (.cells #[] 3))
  clear hot o0 os ol h hok b0 bx hW m1
  go_enter Tryz.func108, Tryz.ntmps108
  go_wp2
  rw [← HW.out]
  go_loopw [3, 4, 5, 10] (fun vo _ _ vi wr => ∃ (k : Nat) (ao : Option Addr) (co : Nat), k ≤ xs.length ∧ vi = .int .i64 k ∧ vo = .slice ao (ot k).length co ∧ Own wr W0.heap.size (.slice ao (ot k).length co) (ot k) ∧ Below W0.heap.size W0 wr) (fun _ _ _ vi _ => xs.length - (intOf vi).toNat)
  case atStart =>
    refine ⟨0, some ⟨W0.heap.size, 0, none⟩, 0, Nat.zero_le _, rfl, ?_, ?_, BI.out⟩
    · rw [O0.out]
      have := congrArg (fun W : World => W.heap.size) HW.out
      simp only [World.size_alloc] at this
      first | rfl | simp [this]
    · rw [O0.out]
      exact OI.out
  case round =>
    obtain ⟨k, ao, co, hk, rfl, rfl, ho, hb⟩ := hrel
    have O := hide ho
    have HB := hide hb
    have l1 := OL.out k
    clear ho
    by_cases hlt : k < xs.length
    · obtain ⟨gb, off, hga, hc, _⟩ := (R.out.below hb).cell k hlt
      subst hga
      have hlt' : (k : Int) < (xs.length : Int) := by omega
      have C := hide (fun W => isOf_calls (xs.getD k none) r W (OK.out k))
      have S := hide (OS.out k hlt)
      generalize epo (xs.getD k none) = ee at C S
      generalize isE r ee = yes at C S
      generalize pv (xs.getD k none) = u at hc C
      have sx1 : wr.cell? ⟨w.heap.size, 1, none⟩ = some (.int .i64 r) := (BX.out.below hb).cell 1
      clear hb
      go_wp2_with fail
      refine (C.out _).mono ?_
      rintro e w1 ⟨rfl, q⟩
      have B1 := hide (HB.out.trans (q.mono HB.out.size))
      have O1 := hide (O.out.below q)
      clear q hc sx1 O
      cases yes with
      | true =>
        have e1 : Hid (ot (k + 1) = ot k) := by show _ = _; rw [S.out]; rfl
        go_wp2
        go_roundw
        case rel =>
          refine ⟨k + 1, ao, co, by omega, by go_num, by rw [e1.out], ?_, B1.out⟩
          rw [e1.out]
          exact O1.out
        case measure => simp [intOf]; omega
      | false =>
        have e1 : Hid (ot (k + 1) = ot k ++ [(k : Int)]) := by show _ = _; rw [S.out]; rfl
        have s2 := B1.out.size
        go_wp2_with (at_builtin; refine wpList_append_int1 rfl _ _ rfl W0.heap.size _ (ot k).length (ot k) k rfl (ownsRow_below O1.out (below_box _ _)) w1.heap.size rfl (World.cell?_alloc_at _ _ _ _ (by simp)) (by omega) (by simp; omega) ?_)
        intro g4 c4 w4 o4 p4 q4 r4
        have HL4 : Hid ((ot (k + 1)).length = (ot k).length + 1) := by show _ = _; rw [e1.out, List.length_append]; rfl
        have O4 : Hid (Own w4 W0.heap.size (.slice (some ⟨g4, 0, none⟩) ((ot k).length + 1) c4) (ot (k + 1))) := by
          show World.ownsRow _ _ _ _ _ (ot (k + 1)).length _
          rw [HL4.out, e1.out, List.map_append]
          exact o4
        have B4 : Hid (Below W0.heap.size W0 w4) := (B1.out.alloc B1.out.size _).grown p4 (by simp; omega) (fun z hz => (World.ownsRow.lt O1.out z hz).1)
        clear o4 p4 q4 r4 O1
        go_wp2
        go_roundw
        case rel =>
          refine ⟨k + 1, some ⟨g4, 0, none⟩, c4, by omega, by go_num, by rw [HL4.out], ?_, B4.out⟩
          rw [HL4.out]
          exact O4.out
        case measure => simp [intOf]; omega
    · obtain rfl : k = xs.length := by omega
      clear hb
      go_wp2
      go_ret
      exact ⟨_, rfl, Own.mono O.out BW.out.size, BW.out.trans (HB.out.mono BW.out.size)⟩

/-- The bodies, as elements. -/
def bdC (xs : List Pc) : List (List Int) := xs.map fun x => ci (bdo x)
theorem bdC_length (xs : List Pc) : (bdC xs).length = xs.length := by simp [bdC]
theorem bdC_get (xs : List Pc) (k : Nat) (h : k < xs.length) : (bdC xs).getD k [] = ci (bdo (xs.getD k none)) := by
  unfold bdC
  rw [List.getD_eq_getElem?_getD, List.getD_eq_getElem?_getD, List.getElem?_map, List.getElem?_eq_getElem h]
  rfl
theorem bdC_ok {xs : List Pc} (hl : xs.length = 5) (hok : ∀ k, okP (xs.getD k none)) : piecesOk (bdC xs) = true := by
  refine piecesOk_yes fun i hi => ?_
  rw [bdC_length] at hi
  unfold pieceAt
  rw [bdC_get xs i hi, bdC_get xs 0 (by omega), Gf.ci_length, Gf.ci_length, bdo_length (hok i), bdo_length (hok 0), ci_el (bdo_small _)]
  rfl
theorem bdC_all {xs : List Pc} : (bdC xs).all (fun r : List Int => r.all Gf.elOk) = true := by
  rw [List.all_eq_true]
  intro r hr
  unfold bdC at hr
  obtain ⟨x, _, rfl⟩ := List.mem_map.1 hr
  exact ci_el (bdo_small x)
theorem pk_rises (f : Int → Bool) (es : List Int) (n : Nat) : ∀ k, k ≤ n → risesM (pkE f es k) (n : Int) = true := by
  intro k
  induction k with
  | zero => intro _; rfl
  | succ k ih =>
    intro hk
    have ih' := ih (by omega)
    simp only [pkE]
    split
    · refine risesM_yes fun i hi => ?_
      rw [List.length_append, List.length_singleton] at hi
      have hmem : ∀ j, j < (pkE f es k).length → (pkE f es k).getD j 0 < (k : Int) := fun j hj => by
        have := pkE_mem f es k ((pkE f es k).getD j 0) (by rw [List.getD_eq_getElem?_getD, List.getElem?_eq_getElem hj]; exact List.getElem_mem hj)
        exact this.2
      by_cases e : i = (pkE f es k).length
      · subst e
        have g1 : (pkE f es k ++ [(k : Int)]).getD (pkE f es k).length 0 = (k : Int) := by simp
        unfold risAtM
        rw [g1, decide_eq_true_eq]
        refine ⟨by omega, by omega, ?_⟩
        by_cases h0 : (pkE f es k).length = 0
        · exact .inl h0
        · right
          have g2 : (pkE f es k ++ [(k : Int)]).getD ((pkE f es k).length - 1) 0 = (pkE f es k).getD ((pkE f es k).length - 1) 0 := by
            simp only [List.getD_eq_getElem?_getD]
            rw [List.getElem?_append_left (by omega)]
          rw [g2]
          exact hmem _ (by omega)
      · have hi2 : i < (pkE f es k).length := by omega
        have := risesM_at ih' i hi2
        unfold risAtM at this ⊢
        have g1 : ∀ j, j < (pkE f es k).length → (pkE f es k ++ [(k : Int)]).getD j 0 = (pkE f es k).getD j 0 := fun j hj => by
          simp only [List.getD_eq_getElem?_getD]
          rw [List.getElem?_append_left hj]
        rw [g1 i hi2]
        by_cases h0 : i = 0
        · subst h0
          simpa using this
        · rw [g1 (i - 1) (by omega)]
          exact this
    · exact ih'
/-- What is decoded. -/
def dcM (xs : List Pc) : List (List Int) := decM 3 2 (bdC xs) (othE (xs.map epo) (rtE (xs.map epo) 5) 5)
def rtX (xs : List Pc) : Int := rtE (xs.map epo) 5
theorem dc_yes {xs : List Pc} (hl : xs.length = 5) (hok : ∀ k, okP (xs.getD k none)) (hr : 0 ≤ rtX xs) : decR 3 2 (bdC xs) (othE (xs.map epo) (rtX xs) 5) = (dcM xs, true) ∧ DecF 3 2 16 (bdC xs) (othE (xs.map epo) (rtX xs) 5) := by
  have hel : (xs.map epo).length = 5 := by rw [List.length_map, hl]
  have hf := othE_few (es := xs.map epo) (by rw [hel]; exact hr)
  rw [hel] at hf
  have hri : risesM (othE (xs.map epo) (rtX xs) 5) ((5 : Nat) : Int) = true := pk_rises _ _ 5 5 (Nat.le_refl _)
  have hd : decOk 3 2 (bdC xs) (othE (xs.map epo) (rtX xs) 5) = true := by
    unfold decOk canR canOk
    rw [show ((3 : Int) + 2) = ((5 : Nat) : Int) by rfl, hri, if_pos (by decide), bdC_ok hl hok, bdC_length, hl]
    have : ((othE (xs.map epo) (rtX xs) 5).length : Int) ≤ 2 := by show ((othE (xs.map epo) (rtE (xs.map epo) 5) 5).length : Int) ≤ 2; omega
    simp [this]
  refine ⟨?_, ⟨by omega, by omega, by omega, by omega, hri, by show (othE (xs.map epo) (rtE (xs.map epo) 5) 5).length ≤ 2; omega, by rw [bdC_length, hl], by rw [bdC_get xs 0 (by omega), Gf.ci_length, bdo_length (hok 0)], by omega, bdC_ok hl hok⟩⟩
  unfold decR
  rw [if_pos hd]
  rfl
theorem dc_no {xs : List Pc} (hl : xs.length = 5) (hok : ∀ k, okP (xs.getD k none)) (hr : rtX xs < 0) : decR 3 2 (bdC xs) (othE (xs.map epo) (rtX xs) 5) = ([], false) := by
  have h5 := othE_all (es := xs.map epo) hr 5
  refine dec_no ?_
  unfold decOk canR
  split
  · rw [h5]
    rfl
  · rfl
theorem dc_tf {xs : List Pc} (hl : xs.length = 5) (hok : ∀ k, okP (xs.getD k none)) (hr : 0 ≤ rtX xs) : tfOk (dcM xs) = true := by
  have D := (dc_yes hl hok hr).2
  have ef : EncF 3 2 16 (Gf.ciM (decX 3 2 (bdC xs) (othE (xs.map epo) (rtX xs) 5))) := ⟨by omega, by omega, by omega, by omega, by rw [Gf.ciM_length, D.shX.len], by rw [Gf.ciM_get, Gf.ci_length, D.shX.row 0 (by omega)], by omega, D.okX⟩
  have hc := ef.chk
  have hr0 := (ef.row 0 (by omega)).1
  unfold tfOk dcM
  show ((chkR 3 2 (mulM (codeM 3 2) (Gf.ciM (decX 3 2 (bdC xs) (othE (xs.map epo) (rtX xs) 5))))).1 && decide (((mulM (codeM 3 2) (Gf.ciM (decX 3 2 (bdC xs) (othE (xs.map epo) (rtX xs) 5)))).getD 0 []).length = 16)) = true
  have hc' : chkR 3 2 (mulM (codeM 3 2) (Gf.ciM (decX 3 2 (bdC xs) (othE (xs.map epo) (rtX xs) 5)))) = (true, true) := hc
  rw [hc', hr0]
  rfl

/-- A stripe can be read. -/
def dcOk (xs : List Pc) : Prop := 0 ≤ rtX xs ∧ tfP (dcM xs)
def dcT (ok : Bool) (xs : List Pc) : ByteArray := if ok = true then tfT (dcM xs) else ⟨#[]⟩

set_option maxRecDepth 100000 in
set_option maxHeartbeats 1600000 in
theorem decodeStripe_calls (v : Value) (xs : List Pc) (ok : Bool) (w : World) (hT : Gf.Tab w) (h : RdP w v xs) (hok : ∀ k, okP (xs.getD k none)) (hl : xs.length = 5) (hd : ok = true ↔ dcOk xs) :
    Calls Tryz.prog 107 #[.agg #[v, .int .i64 (rtX xs)]] w fun e w' => ∃ v', e = .returned (.tuple #[v', .string (dcT ok xs), .bool ok]) ∧ RdM w' v' (if ok = true then dcM xs else []) ∧ Below w.heap.size w w' := by
  have T := hide hT
  have R := hide h
  have A0 := hide ((Hand.start w).box #[v, .int .i64 (rtX xs)] 110)
  have C1 := hide (fun W hh => eachPiece_calls v xs W hh hok (by omega))
  have C2 := hide (fun W hh => othersIn_calls v xs (rtX xs) W hh hok (by omega))
  rw [hl] at C2
  have C3 := hide (fun W vm vo hT hm ho => decodePieces_calls 3 2 vm vo (bdC xs) (othE (xs.map epo) (rtX xs) 5) W hT hm ho bdC_all)
  obtain ⟨a, cap, rfl, m1⟩ := h.slP
  clear hT m1
  by_cases hr : 0 ≤ rtX xs
  case neg =>
    have okf : ok = false := by
      cases ok with
      | false => rfl
      | true => exact absurd (hd.1 rfl).1 hr
    subst okf
    rw [dc_no hl hok (by omega)] at C3
    show Calls _ _ _ _ fun e w' => ∃ v', e = .returned (.tuple #[v', .string ⟨#[]⟩, .bool false]) ∧ RdM w' v' [] ∧ Below w.heap.size w w'
    generalize rtX xs = r at *
    have bx := A0.out.atBox 0 rfl
    have c0 : World.cell? _ ⟨w.heap.size, 0, none⟩ = some (.slice a xs.length cap) := bx.cell 0
    have c1 : World.cell? _ ⟨w.heap.size, 1, none⟩ = some (.int .i64 r) := bx.cell 1
    clear hl hd hok bx
    go_enter Tryz.func107, Tryz.ntmps107
    go_wp2_with fail
    refine (C1.out _ (R.out.below A0.out.below)).mono ?_
    rintro e w1 ⟨v1, rfl, r1, q⟩
    have R1 := hide r1
    have A1 := hide (A0.out.step q)
    clear q r1 A0 c0 c1
    have bx := A1.out.atBox 0 rfl
    have c0 : World.cell? _ ⟨w.heap.size, 0, none⟩ = some (.slice a xs.length cap) := bx.cell 0
    have c1 : World.cell? _ ⟨w.heap.size, 1, none⟩ = some (.int .i64 r) := bx.cell 1
    clear bx
    go_wp2_with fail
    refine (C2.out _ (R.out.below A1.out.below)).mono ?_
    rintro e w2 ⟨v2, rfl, o2, q⟩
    have O2 := hide (Own.rd o2)
    have R2 := hide (R1.out.below q)
    have A2 := hide (A1.out.step q)
    clear q o2 A1 R1 c0 c1
    go_wp2_with fail
    refine (C3.out _ _ _ (Gf.Tab.below T.out A2.out.below) R2.out O2.out).mono ?_
    rintro e w3 ⟨v3, rfl, m3, q⟩
    have A3 := hide (A2.out.step q)
    clear q m3 A2
    go_wp2
    go_ret3
    exact ⟨_, rfl, ⟨none, 0, rfl, Nat.le_refl _, ⟨Nat.zero_le _, fun _ => rfl⟩, .inl rfl⟩, A3.out.below⟩
  rw [(dc_yes hl hok hr).1] at C3
  have hto := dc_tf hl hok hr
  have hy : ok = true ↔ tfP (dcM xs) := by rw [hd]; exact ⟨fun h => h.2, fun h => ⟨hr, h⟩⟩
  have C4 := hide (fun W vm hT hm => textFrom_calls vm (dcM xs) ok W hy hT hm)
  have er : tfR (dcM xs) ok = (dcT ok xs, ok) := by
    unfold tfR dcT
    cases ok <;> simp [hto]
  rw [er] at C4
  have TF : Hid (ok = false → dcT ok xs = ⟨#[]⟩) := fun e => by unfold dcT; rw [e]; rfl
  generalize rtX xs = r at *
  generalize dcM xs = dm at *
  generalize dcT ok xs = tt at *
  have bx := A0.out.atBox 0 rfl
  have c0 : World.cell? _ ⟨w.heap.size, 0, none⟩ = some (.slice a xs.length cap) := bx.cell 0
  have c1 : World.cell? _ ⟨w.heap.size, 1, none⟩ = some (.int .i64 r) := bx.cell 1
  clear hl hd hok bx er hto hy
  go_enter Tryz.func107, Tryz.ntmps107
  go_wp2_with fail
  refine (C1.out _ (R.out.below A0.out.below)).mono ?_
  rintro e w1 ⟨v1, rfl, r1, q⟩
  have R1 := hide r1
  have A1 := hide (A0.out.step q)
  clear q r1 A0 c0 c1
  have bx := A1.out.atBox 0 rfl
  have c0 : World.cell? _ ⟨w.heap.size, 0, none⟩ = some (.slice a xs.length cap) := bx.cell 0
  have c1 : World.cell? _ ⟨w.heap.size, 1, none⟩ = some (.int .i64 r) := bx.cell 1
  clear bx
  go_wp2_with fail
  refine (C2.out _ (R.out.below A1.out.below)).mono ?_
  rintro e w2 ⟨v2, rfl, o2, q⟩
  have O2 := hide (Own.rd o2)
  have R2 := hide (R1.out.below q)
  have A2 := hide (A1.out.step q)
  clear q o2 A1 R1 c0 c1
  go_wp2_with fail
  refine (C3.out _ _ _ (Gf.Tab.below T.out A2.out.below) R2.out O2.out).mono ?_
  rintro e w3 ⟨v3, rfl, m3, q⟩
  have R3 := hide m3.rd
  have A3 := hide (A2.out.step q)
  clear q m3 A2
  go_wp2_with fail
  refine (C4.out _ _ (Gf.Tab.below T.out A3.out.below) R3.out).mono ?_
  rintro e w4 ⟨rfl, q⟩
  have R4 := hide (R3.out.below q)
  have A4 := hide (A3.out.step q)
  clear q A3 R3
  cases ok with
  | true =>
    go_wp2
    go_ret3
    exact ⟨_, rfl, R4.out, A4.out.below⟩
  | false =>
    have et := TF.out rfl
    subst et
    go_wp2
    go_ret3
    exact ⟨_, rfl, ⟨none, 0, rfl, Nat.le_refl _, ⟨Nat.zero_le _, fun _ => rfl⟩, .inl rfl⟩, A4.out.below⟩

/-- The pieces of the stripe from A on. -/
def rsX (P H : List ByteArray) (B : List Bool) (least A : Int) : List Pc := skL P H B least A.toNat
def rsOth (ok : Bool) (xs : List Pc) : List Int := if ok = true then othE (xs.map epo) (rtX xs) 5 else []
set_option maxRecDepth 100000 in
set_option maxHeartbeats 1600000 in
theorem readStripe_calls (p h b : Value) (P H : List ByteArray) (B : List Bool) (A least : Int) (ok : Bool) (w : World) (hT : Gf.Tab w) (hok : ok = true ↔ ((gkP P H B ∧ ftP P A) ∧ dcOk (rsX P H B least A))) (hwf : (Lit.int .i64 A).wf = true) (hp : RdT w p P) (hh : RdT w h H) (hb : RdZ w b B) :
    Calls Tryz.prog 54 #[.agg #[p, h, b], .int .i64 A, .int .i64 least] w fun e w' => ∃ v', e = .returned (.tuple #[.string (dcT ok (rsX P H B least A)), v', .bool ok]) ∧ Own w' w.heap.size v' (rsOth ok (rsX P H B least A)) ∧ Below w.heap.size w w' := by
  have T := hide hT
  have RP := hide hp
  have RH := hide hh
  have RB := hide hb
  obtain ⟨f, hf⟩ := ft_bool P H B A
  have HF := hide hf
  have C1 := hide (fun W h1 h2 h3 => liesOn_calls p h b P H B A f W hf hwf h1 h2 h3)
  have A0 := hide ((Hand.start w).box #[p, h, b] 26)
  obtain ⟨c0, c1, c2⟩ := (A0.out.atBox 0 rfl).c3
  clear hp hh hb hT hf hwf
  cases f with
  | false =>
    have okf : ok = false := by
      cases ok with
      | false => rfl
      | true => have := HF.out.2 (hok.1 rfl).1; simp at this
    subst okf
    show Calls _ _ _ _ fun e w' => ∃ v', e = .returned (.tuple #[.string ⟨#[]⟩, v', .bool false]) ∧ Own w' w.heap.size v' [] ∧ Below w.heap.size w w'
    go_enter Tryz.func54, Tryz.ntmps54
    go_wp2_with fail
    refine (C1.out _ (RP.out.below A0.out.below) (RH.out.below A0.out.below) (RB.out.below A0.out.below)).mono ?_
    rintro e w1 ⟨rfl, q⟩
    have A1 := hide (A0.out.step q)
    clear q A0 c0 c1 c2
    go_wp2
    go_ret3
    exact ⟨_, rfl, World.ownsRow_nil _ _ _ _, A1.out.below⟩
  | true =>
  have GK := hide (HF.out.1 rfl).1
  have FT := hide (HF.out.1 rfl).2
  have HD : Hid (ok = true ↔ dcOk (rsX P H B least A)) := by show _ ↔ _; rw [hok]; exact ⟨fun h => h.2, fun h => ⟨HF.out.1 rfl, h⟩⟩
  obtain ⟨a, rfl⟩ : ∃ a : Nat, A = (a : Int) := ⟨A.toNat, by have := FT.out.1; omega⟩
  have ha5 : a + 5 ≤ P.length := by have := FT.out.2; omega
  have ex : rsX P H B least (a : Int) = skL P H B least a := by unfold rsX; rw [Int.toNat_natCast]
  rw [ex] at HD
  rw [ex]
  have C2 := hide (fun W h1 h2 h3 => findStripe_calls p h b P H B a least W GK.out ha5 h1 h2 h3)
  have C3 := hide (fun W v hT hv => decodeStripe_calls v (skL P H B least a) ok W hT hv (skL_ok _ _ _ _ _) (skL_length _ _ _ _ _) HD.out)
  have C4 := hide (fun W v hv => othersIn_calls v (skL P H B least a) (rtX (skL P H B least a)) W hv (skL_ok _ _ _ _ _) (by rw [skL_length]; omega))
  rw [skL_length] at C4
  have RO : Hid (ok = true → rsOth ok (skL P H B least a) = othE ((skL P H B least a).map epo) (rtX (skL P H B least a)) 5) := fun e => by unfold rsOth; rw [if_pos e]
  have RN : Hid (ok = false → rsOth ok (skL P H B least a) = [] ∧ dcT ok (skL P H B least a) = ⟨#[]⟩) := fun e => ⟨by unfold rsOth; rw [e]; rfl, by unfold dcT; rw [e]; rfl⟩
  have SL := hide (skL_length P H B least a)
  have C2' : Hid (∀ W, RdT W p P → RdT W h H → RdZ W b B → Calls Tryz.prog 87 #[.agg #[p, h, b], .int .i64 (a : Int), .int .i64 least] W fun e w' => ∃ v, e = .returned (.agg #[v, .int .i64 (rtX (skL P H B least a))]) ∧ OwnP w' W.heap.size v (skL P H B least a) ∧ Below W.heap.size W w') := C2.out
  clear C2 ex hok HD HF FT
  generalize rsOth ok (skL P H B least a) = oo at *
  generalize dcT ok (skL P H B least a) = tt at *
  generalize othE ((skL P H B least a).map epo) (rtX (skL P H B least a)) 5 = ot at *
  generalize rtX (skL P H B least a) = r at *
  generalize dcM (skL P H B least a) = dm at *
  generalize skL P H B least a = xs at *
  go_enter Tryz.func54, Tryz.ntmps54
  go_wp2_with fail
  refine (C1.out _ (RP.out.below A0.out.below) (RH.out.below A0.out.below) (RB.out.below A0.out.below)).mono ?_
  rintro e w1 ⟨rfl, q⟩
  have A1 := hide (A0.out.step q)
  clear q A0 c0 c1 c2
  obtain ⟨c0, c1, c2⟩ := (A1.out.atBox 0 rfl).c3
  go_wp2_with fail
  refine (C2'.out _ (RP.out.below A1.out.below) (RH.out.below A1.out.below) (RB.out.below A1.out.below)).mono ?_
  rintro e w2 ⟨v2, rfl, o2, q⟩
  obtain ⟨av, cv, hv2⟩ := row_slice o2
  subst hv2
  have R2 := hide (OwnP.rd o2)
  have A2 := hide ((A1.out.step q).box #[.slice av xs.length cv, .int .i64 r] 110)
  have R2' := hide (R2.out.below (below_box w2 (.cells #[.slice av xs.length cv, .int .i64 r] 110)))
  clear q o2 A1 c0 c1 c2 R2
  have c0 : World.cell? _ ⟨w2.heap.size, 0, none⟩ = some (.slice av xs.length cv) := (A2.out.atBox 0 rfl).cell 0
  have c1 : World.cell? _ ⟨w2.heap.size, 1, none⟩ = some (.int .i64 r) := (A2.out.atBox 0 rfl).cell 1
  go_wp2_with fail
  refine (C3.out _ _ (Gf.Tab.below T.out A2.out.below) R2'.out).mono ?_
  rintro e w3 ⟨v3, rfl, r3, q⟩
  have A3 := hide (A2.out.step q)
  have R3 := hide (R2'.out.below q)
  clear q A2 R2' c0 c1 r3
  cases ok with
  | false =>
    obtain ⟨e1, e2⟩ := RN.out rfl
    subst e1
    subst e2
    go_wp2
    go_ret3
    exact ⟨_, rfl, World.ownsRow_nil _ _ _ _, A3.out.below⟩
  | true =>
    have e1 := RO.out rfl
    subst e1
    have c0 : World.cell? _ ⟨w2.heap.size, 0, none⟩ = some (.slice av xs.length cv) := (A3.out.atBox 0 rfl).cell 0
    have c1 : World.cell? _ ⟨w2.heap.size, 1, none⟩ = some (.int .i64 r) := (A3.out.atBox 0 rfl).cell 1
    go_wp2_with fail
    refine (C4.out _ _ R3.out).mono ?_
    rintro e w4 ⟨v4, rfl, o4, q⟩
    have O4 := hide (Own.mono o4 A3.out.below.size)
    have A4 := hide (A3.out.step q)
    clear q o4 A3 c0 c1
    go_wp2
    go_ret3
    exact ⟨_, rfl, O4.out, A4.out.below⟩
end Go.Proofs.YtbgadbokejaomaaGreatDoor

namespace Go.Proofs.YtbgadbokejaomaaGreatDoor
open Go.RowKit
set_option linter.unusedVariables false

/-- The thing on top may grow, and memory with it. -/
theorem Hand.openTop {W w : World} {t : Tg} {L : List Tg} (A : Hand W w (t :: L)) : ∃ lo hi, t lo hi w ∧ lo ≤ hi ∧ hi ≤ w.heap.size ∧ W.heap.size ≤ lo ∧ ∀ w' t', Tg.st t' → t' lo w'.heap.size w' → Chg lo w.heap.size w w' → Hand W w' (t' :: L) := by
  obtain ⟨hb, lo, hi, ⟨s, x⟩, h1, h2, r⟩ := A
  refine ⟨lo, hi, x, h1, h2, r.base, fun w' t' hs k1 k2 => ?_⟩
  have sz := k2.size
  exact ⟨hb.trans (k2.below r.base hb.size), lo, w'.heap.size, ⟨hs, k1⟩, by omega, Nat.le_refl _, HeldG.chg k2 r (Nat.le_refl _)⟩
/-- Two rows of the call's own that lie apart. -/
structure Two (w : World) (lo hi : Nat) (u v : Value) (X Y : List Int) : Prop where
  a : Own w lo u X
  b : Own w lo v Y
  ta : ∀ k, u.ownBlock = some k → k < hi
  tb : ∀ k, v.ownBlock = some k → k < hi
  ne : u.ownBlock = none ∨ u.ownBlock ≠ v.ownBlock
def TTwo (u v : Value) (X Y : List Int) : Tg := fun lo hi w => Two w lo hi u v X Y
theorem TTwo.st (u v : Value) (X Y : List Int) : (TTwo u v X Y).st := fun lo hi a b w w' h hc hd => ⟨ownsRow_chg h.a h.ta hc hd, ownsRow_chg h.b h.tb hc hd, h.ta, h.tb, h.ne⟩
theorem Two.nil (w : World) (lo hi : Nat) : Two w lo hi (.slice none 0 0) (.slice none 0 0) [] [] :=
  ⟨World.ownsRow_nil _ _ _ _, World.ownsRow_nil _ _ _ _, fun k hk => by simp [Value.ownBlock] at hk, fun k hk => by simp [Value.ownBlock] at hk, .inl rfl⟩
theorem ne_swap {a b : Option Nat} (h : a = none ∨ a ≠ b) : b = none ∨ b ≠ a := by
  rcases h with h | h
  · cases b with
    | none => exact .inl rfl
    | some x => right; rw [h]; simp
  · exact .inr (fun e => h e.symm)
theorem Two.swap {w : World} {lo hi : Nat} {u v : Value} {X Y : List Int} (h : Two w lo hi u v X Y) : Two w lo hi v u Y X := ⟨h.b, h.a, h.tb, h.ta, ne_swap h.ne⟩
/-- The first row grows. -/
theorem Two.grow {w w' : World} {lo hi g n cap : Nat} {u v : Value} {X Y : List Int} {z : Int} (h : Two w lo hi u v X Y) (hh : hi ≤ w.heap.size)
    (h1 : w'.ownsRow lo 3 1 (.slice (some ⟨g, 0, none⟩) (n + 1) cap) (n + 1) (X.map (Value.int .i64) ++ [Value.int .i64 z])) (hn : X.length = n) (h2 : w.grownBy w' u.ownBlock) (h3 : u.ownBlock = some g ∨ g = w.heap.size) (h4 : g < w'.heap.size) :
    Two w' lo w'.heap.size (.slice (some ⟨g, 0, none⟩) (n + 1) cap) v (X ++ [z]) Y ∧ Chg lo w.heap.size w w' := by
  have hs : w.heap.size ≤ w'.heap.size := h2.size
  refine ⟨⟨?_, World.ownsRow.kept h.b h2 (ne_swap h.ne), fun k hk => ?_, fun k hk => ?_, .inr ?_⟩, Chg.ofGrown h2 fun k hk => ⟨row_low h.a k hk, by have := h.ta k hk; omega⟩⟩
  · show World.ownsRow _ _ _ _ _ (X ++ [z]).length _
    rw [List.length_append, hn, List.map_append]
    exact h1
  · simp [Value.ownBlock] at hk
    omega
  · have := h.tb k hk
    omega
  · show some g ≠ v.ownBlock
    rcases h3 with h3 | h3
    · rcases h.ne with e | e
      · rw [h3] at e; simp at e
      · rw [← h3]; exact e
    · intro e
      have := h.tb g e.symm
      omega

end Go.Proofs.YtbgadbokejaomaaGreatDoor

namespace Go.Proofs.YtbgadbokejaomaaGreatDoor
open Go.RowKit
set_option linter.unusedVariables false

set_option maxRecDepth 100000 in
set_option maxHeartbeats 800000 in
theorem l7Read_calls (p h b : Value) (P H : List ByteArray) (B : List Bool) (k : Nat) (w : World) (gk : gkP P H B) (hk : k < P.length) (hp : RdT w p P) (hh : RdT w h H) (hb : RdZ w b B) :
    Calls Tryz.prog 180 #[.agg #[p, h, b], .int .i64 (k : Int)] w fun e w' => e = .returned (.tuple #[.string (if B.getD k false = true then ⟨#[]⟩ else rsT P H k), .bool (!B.getD k false)]) ∧ Below w.heap.size w w' := by
  have h24 : P.length ≤ 24 := gk.1.2
  have L2 := hide gk.2.1
  have L3 := hide gk.2.2.1
  have hbx := below_box w (.cells #[p, h, b] 26)
  have HB := hide hbx
  obtain ⟨ap, cp, rfl, mp, _⟩ := hp.sl
  obtain ⟨ah, ch, rfl, mh, _⟩ := hh.sl
  obtain ⟨ab, cb, rfl, mb, _⟩ := hb.sl
  obtain ⟨gb, ob, rfl, hcb, _⟩ := (hb.below hbx).cell k (by rw [L3.out]; exact hk)
  obtain ⟨gh, oh, rfl, hch, _⟩ := (hh.below hbx).cell k (by rw [L2.out]; exact hk)
  obtain ⟨gp, op, rfl, hcp, _⟩ := (hp.below hbx).cell k hk
  have i1 : (k : Int) < (B.length : Int) := by rw [L3.out]; omega
  have i2 : (k : Int) < (H.length : Int) := by rw [L2.out]; omega
  have i3 : (k : Int) < (P.length : Int) := by omega
  unfold rsT
  clear hp hh hb gk mp mh mb L2 L3 hbx
  generalize B.getD k false = y at *
  generalize H.getD k ⟨#[]⟩ = z at *
  generalize P.getD k ⟨#[]⟩ = u at *
  cases y with
  | true =>
    rw [if_pos rfl]
    go_enter Tryz.func180, Tryz.ntmps180
    go_wp2
    go_ret2
    exact ⟨rfl, HB.out⟩
  | false =>
    rw [if_neg (by simp)]
    by_cases hz : z.size = 0
    · have hzz := size_zero hz
      subst hzz
      rw [if_pos hz]
      go_enter Tryz.func180, Tryz.ntmps180
      go_wp2
      go_ret2
      exact ⟨rfl, HB.out⟩
    · rw [if_neg hz]
      obtain ⟨zz1, zz2⟩ := toList_ne (z := z) (fun e => hz (by rw [e]; rfl))
      clear hz
      go_enter Tryz.func180, Tryz.ntmps180
      go_wp2
      go_ret2
      exact ⟨rfl, HB.out⟩
end Go.Proofs.YtbgadbokejaomaaGreatDoor
