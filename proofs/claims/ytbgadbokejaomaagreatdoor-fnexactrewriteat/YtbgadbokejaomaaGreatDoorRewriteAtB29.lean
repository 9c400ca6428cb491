/-
  What the law of erasure asks: a code stands as it was made, comes back whatever lost pieces hold, and is no code where one was spoilt: plain mathematics. No call is walked here. A stripe decoded: the program's othersIn, the pieces' elements, decodeStripe and ReadStripe. The program's table of rests must hold its seven numbers where the program's own functions are called. A stripe read: the program's othersIn, decodeStripe and ReadStripe. The program's table of rests must hold its seven numbers where the program's own functions are called. A stripe's health: the program's healthIn and HealthOf. Each contract says what it asks. What a sector tells, by the model: l7Read, call by call. The contract says what it asks. What a stripe's sectors tell, by the model: l7Read, l8Seen, l8Right, call by call. Each contract says what it asks. A stripe read by the model: l8Read and ReadStripe. Each contract says what it asks. What a stripe of a scrub tells: hasStripe, firstSector, TextAt of the program; l16There, l16Text, TextAt of the model. The program's table of rests must hold its seven numbers where the program reads a stripe. Pieces written: the program's writePieces. The contract says what it asks.
-/
import Derived.Test.YtbgadbokejaomaaGreatDoorRewriteAtB28
import Derived.Test.YtbgadbokejaomaaGreatDoorRewriteAtB18
import Derived.Test.YtbgadbokejaomaaGreatDoorRewriteAtB26
import Derived.Test.YtbgadbokejaomaaGreatDoorRewriteAtB15
import Derived.Test.YtbgadbokejaomaaGreatDoorRewriteAtB21
import Derived.Deep.RegionHeld3
import Derived.Test.YtbgadbokejaomaaGreatDoorRewriteAtB25
import Derived.Test.YtbgadbokejaomaaGreatDoorRewriteAtB13
import Derived.Test.YtbgadbokejaomaaGreatDoorRewriteAtB16
namespace Go.Proofs.YtbgadbokejaomaaGreatDoor
open Go.RowKit
open Gf (ci nat ciM Sh AllLt invTo solN selM codeN those rowL identN elOk)

/-- A good code's data. -/
structure EncF (D Q l : Nat) (m : List (List Int)) : Prop where
  d1 : 1 ≤ D
  d6 : D ≤ 6
  q1 : 1 ≤ Q
  q4 : Q ≤ 4
  ml : m.length = D
  l0 : (m.getD 0 []).length = l
  l32 : l ≤ 32
  ok : piecesOk m = true
theorem EncF.shM {D Q l : Nat} {m : List (List Int)} (h : EncF D Q l m) : Sh (m.map nat) D l := by
  have := sh_pieces h.ok
  rw [h.ml, h.l0] at this
  exact this
theorem EncF.eq {D Q l : Nat} {m : List (List Int)} (h : EncF D Q l m) : mulM (codeM D Q) m = ciM ((codeN D Q).map (rowL (m.map nat) l D)) := by
  rw [← mul_row (Gf.sh_code D Q) h.shM (by have := h.d1; omega), code_ciM, ciM_natM fun i hi => (piecesOk_at h.ok i hi).2.2]
theorem EncF.shE {D Q l : Nat} {m : List (List Int)} (h : EncF D Q l m) : Sh ((codeN D Q).map (rowL (m.map nat) l D)) (D + Q) l := sh_mul (Gf.sh_code D Q) h.shM
theorem EncF.len {D Q l : Nat} {m : List (List Int)} (h : EncF D Q l m) : (mulM (codeM D Q) m).length = D + Q := by rw [h.eq, Gf.ciM_length, h.shE.len]
theorem EncF.pieces {D Q l : Nat} {m : List (List Int)} (h : EncF D Q l m) : piecesOk (mulM (codeM D Q) m) = true := by rw [h.eq]; exact pieces_sh h.shE h.l32
theorem EncF.row {D Q l : Nat} {m : List (List Int)} (h : EncF D Q l m) (k : Nat) (hk : k < D + Q) : ((mulM (codeM D Q) m).getD k []).length = l ∧ ((mulM (codeM D Q) m).getD k []).all elOk = true := by
  rw [h.eq, Gf.ciM_get, Gf.ci_length, h.shE.row k hk]
  exact ⟨rfl, elOk_lt (h.shE.lt k hk)⟩
theorem EncF.code {D Q l : Nat} {m : List (List Int)} (h : EncF D Q l m) : codeOk (D : Int) (Q : Int) = true := by
  have := h.d1; have := h.d6; have := h.q1; have := h.q4
  exact codeOk_yes (by omega)
/-- A piece that is lost holds something else. -/
def spoil (ys : List Int) (k : Nat) (r : List Int) : List Int := if ys.contains (k : Int) then r.map (fun x => (x + 1 + (k : Int)) % 256) else r
def spM (E : List (List Int)) (ys : List Int) : List (List Int) := (List.range E.length).map fun k => spoil ys k (E.getD k [])
theorem spM_length (E : List (List Int)) (ys : List Int) : (spM E ys).length = E.length := by simp [spM]
theorem spM_get (E : List (List Int)) (ys : List Int) (k : Nat) (h : k < E.length) : (spM E ys).getD k [] = spoil ys k (E.getD k []) := by simp [spM, h]
theorem spoil_length (ys : List Int) (k : Nat) (r : List Int) : (spoil ys k r).length = r.length := by
  unfold spoil
  split
  · rw [List.length_map]
  · rfl
theorem spoil_el {ys : List Int} {k : Nat} {r : List Int} (h : r.all elOk = true) : (spoil ys k r).all elOk = true := by
  unfold spoil
  split
  · rw [List.all_eq_true]
    intro x hx
    obtain ⟨y, _, rfl⟩ := List.mem_map.1 hx
    exact Gf.elOk_iff.2 (by omega)
  · exact h
/-- What the second half of the law rests on: a code, and what was lost of it. -/
structure SpF (D Q l : Nat) (m : List (List Int)) (ys : List Int) : Prop where
  enc : EncF D Q l m
  ris : risesM ys ((D + Q : Nat) : Int) = true
  yl : ys.length ≤ Q
theorem SpF.row {D Q l : Nat} {m : List (List Int)} {ys : List Int} (h : SpF D Q l m ys) (k : Nat) (hk : k < D + Q) : ((spM (mulM (codeM D Q) m) ys).getD k []).length = l ∧ ((spM (mulM (codeM D Q) m) ys).getD k []).all elOk = true := by
  rw [spM_get _ _ _ (by rw [h.enc.len]; exact hk), spoil_length]
  exact ⟨(h.enc.row k hk).1, spoil_el (h.enc.row k hk).2⟩
theorem SpF.pieces {D Q l : Nat} {m : List (List Int)} {ys : List Int} (h : SpF D Q l m ys) : piecesOk (spM (mulM (codeM D Q) m) ys) = true := by
  refine piecesOk_yes fun i hi => ?_
  rw [spM_length, h.enc.len] at hi
  obtain ⟨r1, r2⟩ := h.row i hi
  obtain ⟨r3, _⟩ := h.row 0 (by omega)
  unfold pieceAt
  rw [r1, r2, r3, decide_eq_true ⟨rfl, h.enc.l32⟩]
  rfl
theorem SpF.all {D Q l : Nat} {m : List (List Int)} {ys : List Int} (h : SpF D Q l m ys) : (spM (mulM (codeM D Q) m) ys).all (fun r : List Int => r.all elOk) = true := by
  have := h.pieces
  unfold piecesOk at this
  rw [Bool.and_eq_true] at this
  exact this.2
theorem SpF.dec {D Q l : Nat} {m : List (List Int)} {ys : List Int} (h : SpF D Q l m ys) : DecF D Q l (spM (mulM (codeM D Q) m) ys) ys :=
  ⟨h.enc.d1, h.enc.d6, h.enc.q1, h.enc.q4, h.ris, h.yl, by rw [spM_length, h.enc.len], (h.row 0 (by have := h.enc.d1; omega)).1, h.enc.l32, h.pieces⟩
theorem SpF.kept {D Q l : Nat} {m : List (List Int)} {ys : List Int} (h : SpF D Q l m ys) (k : Nat) (hk : k < D + Q) (hy : (k : Int) ∉ ys) : (spM (mulM (codeM D Q) m) ys).getD k [] = (mulM (codeM D Q) m).getD k [] := by
  rw [spM_get _ _ _ (by rw [h.enc.len]; exact hk)]
  unfold spoil
  rw [List.contains_eq_mem, decide_eq_false hy]
  rfl
theorem SpF.back {D Q l : Nat} {m : List (List Int)} {ys : List Int} (h : SpF D Q l m ys) : decR D Q (spM (mulM (codeM D Q) m) ys) ys = (mulM (codeM D Q) m, true) := by
  have hc : canOk (D : Int) (Q : Int) ys = true := by
    unfold canOk
    rw [h.enc.code, Bool.true_and]
    have := h.ris
    rw [Int.natCast_add] at this
    exact this
  have hok : decOk (D : Int) (Q : Int) (spM (mulM (codeM D Q) m) ys) ys = true := by
    unfold decOk canR
    rw [if_pos hc, h.pieces, decide_eq_true (by have := h.yl; omega), decide_eq_true (by rw [spM_length, h.enc.len]; omega)]
    rfl
  unfold decR
  rw [if_pos hok, Int.toNat_natCast, Int.toNat_natCast, dec_code h.dec h.enc.ok h.enc.ml h.enc.l0 h.kept]
end Go.Proofs.YtbgadbokejaomaaGreatDoor

namespace Go.Proofs.YtbgadbokejaomaaGreatDoor
open Go.RowKit
open Gf (ci nat)
set_option linter.unusedVariables false

theorem RdP.cellP {w : World} {a : Option Addr} {n cap : Nat} {xs : List Pc} (h : RdP w (.slice a n cap) xs) (k : Nat) (hk : k < xs.length) : ∃ b off, a = some ⟨b, off, none⟩ ∧ w.cell? ⟨b, off + k, none⟩ = some (pv (xs.getD k none)) := by
  obtain ⟨b, off, h1, h2, _⟩ := h.cell k hk
  exact ⟨b, off, h1, h2⟩

end Go.Proofs.YtbgadbokejaomaaGreatDoor

namespace Go.Proofs.YtbgadbokejaomaaGreatDoor
open Go.RowKit
open Gf (ci nat)
set_option linter.unusedVariables false

end Go.Proofs.YtbgadbokejaomaaGreatDoor

namespace Go.Proofs.YtbgadbokejaomaaGreatDoor
open Go.RowKit
set_option linter.unusedVariables false

/-- Two rows of the call's own that lie apart. -/
structure Two (w : World) (lo hi : Nat) (u v : Value) (X Y : List Int) : Prop where
  a : Own w lo u X
  b : Own w lo v Y
  ta : ∀ k, u.ownBlock = some k → k < hi
  tb : ∀ k, v.ownBlock = some k → k < hi
  ne : u.ownBlock = none ∨ u.ownBlock ≠ v.ownBlock
def TTwo (u v : Value) (X Y : List Int) : Tg := fun lo hi w => Two w lo hi u v X Y
theorem TTwo.st (u v : Value) (X Y : List Int) : (TTwo u v X Y).st := fun lo hi a b w w' h hc hd => ⟨ownsRow_chg h.a h.ta hc hd, ownsRow_chg h.b h.tb hc hd, h.ta, h.tb, h.ne⟩
theorem Two.nil (w : World) (lo hi : Nat) : Two w lo hi (.slice none 0 0) (.slice none 0 0) [] [] :=
  ⟨World.ownsRow_nil _ _ _ _, World.ownsRow_nil _ _ _ _, fun k hk => by simp [Value.ownBlock] at hk, fun k hk => by simp [Value.ownBlock] at hk, .inl rfl⟩
theorem ne_swap {a b : Option Nat} (h : a = none ∨ a ≠ b) : b = none ∨ b ≠ a := by
  rcases h with h | h
  · cases b with
    | none => exact .inl rfl
    | some x => right; rw [h]; simp
  · exact .inr (fun e => h e.symm)
theorem Two.swap {w : World} {lo hi : Nat} {u v : Value} {X Y : List Int} (h : Two w lo hi u v X Y) : Two w lo hi v u Y X := ⟨h.b, h.a, h.tb, h.ta, ne_swap h.ne⟩
/-- The first row grows. -/
theorem Two.grow {w w' : World} {lo hi g n cap : Nat} {u v : Value} {X Y : List Int} {z : Int} (h : Two w lo hi u v X Y) (hh : hi ≤ w.heap.size)
    (h1 : w'.ownsRow lo 3 1 (.slice (some ⟨g, 0, none⟩) (n + 1) cap) (n + 1) (X.map (Value.int .i64) ++ [Value.int .i64 z])) (hn : X.length = n) (h2 : w.grownBy w' u.ownBlock) (h3 : u.ownBlock = some g ∨ g = w.heap.size) (h4 : g < w'.heap.size) :
    Two w' lo w'.heap.size (.slice (some ⟨g, 0, none⟩) (n + 1) cap) v (X ++ [z]) Y ∧ Chg lo w.heap.size w w' := by
  have hs : w.heap.size ≤ w'.heap.size := h2.size
  refine ⟨⟨?_, World.ownsRow.kept h.b h2 (ne_swap h.ne), fun k hk => ?_, fun k hk => ?_, .inr ?_⟩, Chg.ofGrown h2 fun k hk => ⟨row_low h.a k hk, by have := h.ta k hk; omega⟩⟩
  · show World.ownsRow _ _ _ _ _ (X ++ [z]).length _
    rw [List.length_append, hn, List.map_append]
    exact h1
  · simp [Value.ownBlock] at hk
    omega
  · have := h.tb k hk
    omega
  · show some g ≠ v.ownBlock
    rcases h3 with h3 | h3
    · rcases h.ne with e | e
      · rw [h3] at e; simp at e
      · rw [← h3]; exact e
    · intro e
      have := h.tb g e.symm
      omega

end Go.Proofs.YtbgadbokejaomaaGreatDoor

namespace Go.Proofs.YtbgadbokejaomaaGreatDoor
open Go.RowKit
set_option linter.unusedVariables false

end Go.Proofs.YtbgadbokejaomaaGreatDoor

namespace Go.Proofs.YtbgadbokejaomaaGreatDoor
open Go.RowKit
set_option linter.unusedVariables false

/-- Rows and Epochs that grow side by side. -/
structure Sn (w : World) (lo hi : Nat) (vm ve : Value) (vs : List Value) (m : List (List Int)) (es : List Int) : Prop where
  mat : MatV w lo hi vm vs m
  ep : Own w lo ve es
  te : ∀ k, ve.ownBlock = some k → k < hi
  ne : ∀ i, i < m.length → (vs.getD i nilRow).ownBlock = none ∨ (vs.getD i nilRow).ownBlock ≠ ve.ownBlock
theorem Sn.below {w w' : World} {lo hi : Nat} {vm ve : Value} {vs : List Value} {m : List (List Int)} {es : List Int} (h : Sn w lo hi vm ve vs m es) (hb : Below w.heap.size w w') : Sn w' lo hi vm ve vs m es := ⟨h.mat.below hb, h.ep.below hb, h.te, h.ne⟩
theorem Sn.push {w w1 w2 : World} {lo : Nat} {vm v' ve u : Value} {vs : List Value} {m : List (List Int)} {es r : List Int} (h : Sn w lo w.heap.size vm ve vs m es) (hb : Below w.heap.size w w1) (ho : Own w1 w.heap.size u r) (hlo : lo ≤ w.heap.size)
    (ho2 : w2.ownsRow lo 27 1 v' (m.length + 1) (vs ++ [u])) (hg : w1.grownBy w2 vm.ownBlock) : Sn w2 lo w2.heap.size v' ve (vs ++ [u]) (m ++ [r]) es := by
  have hs1 := hb.size
  have hs2 := hg.size
  refine ⟨h.mat.push hb ho (Nat.le_refl _) hlo ho2 hg, World.ownsRow.kept (h.ep.below hb) hg (heads_apart' h.mat.head h.ep), fun k hk => by have := h.te k hk; omega, fun j hj => ?_⟩
  rw [List.length_append, List.length_singleton] at hj
  by_cases e : j = m.length
  · subst e
    have : (vs ++ [u]).getD m.length nilRow = u := by
      rw [List.getD_eq_getElem?_getD, List.getElem?_append_right (by rw [h.mat.len]; exact Nat.le_refl _), h.mat.len, Nat.sub_self]
      rfl
    rw [this]
    cases hu : u.ownBlock with
    | none => exact .inl rfl
    | some b =>
      right
      intro e'
      have h1 := (World.ownsRow.lt ho b hu).1
      have h2 := h.te b e'.symm
      omega
  · have : (vs ++ [u]).getD j nilRow = vs.getD j nilRow := by
      simp only [List.getD_eq_getElem?_getD]
      rw [List.getElem?_append_left (by rw [h.mat.len]; omega)]
    rw [this]
    exact h.ne j (by omega)
theorem Sn.grow {w w' : World} {lo hi g n cap : Nat} {vm ve : Value} {vs : List Value} {m : List (List Int)} {es : List Int} {z : Int} (h : Sn w lo hi vm ve vs m es) (hh : hi ≤ w.heap.size)
    (h1 : w'.ownsRow lo 3 1 (.slice (some ⟨g, 0, none⟩) (n + 1) cap) (n + 1) (es.map (Value.int .i64) ++ [Value.int .i64 z])) (hn : es.length = n) (h2 : w.grownBy w' ve.ownBlock) (h3 : ve.ownBlock = some g ∨ g = w.heap.size) (h4 : g < w'.heap.size) :
    Sn w' lo w'.heap.size vm (.slice (some ⟨g, 0, none⟩) (n + 1) cap) vs m (es ++ [z]) := by
  have hs : w.heap.size ≤ w'.heap.size := h2.size
  refine ⟨⟨h.mat.len, World.ownsRow.kept h.mat.head h2 (heads_apart h.mat.head h.ep), fun i hi => World.ownsRow.kept (h.mat.row i hi) h2 (h.ne i hi), fun k hk => by have := h.mat.top k hk; omega, fun i k hi hk => by have := h.mat.tops i k hi hk; omega, h.mat.apart⟩, ?_, fun k hk => ?_, fun i hi => ?_⟩
  · show World.ownsRow _ _ _ _ _ (es ++ [z]).length _
    rw [List.length_append, hn, List.map_append]
    exact h1
  · simp [Value.ownBlock] at hk
    omega
  · rcases h.ne i hi with e | e
    · exact .inl e
    · cases hv : (vs.getD i nilRow).ownBlock with
      | none => exact .inl rfl
      | some x =>
        right
        show some x ≠ some g
        intro ee
        simp only [Option.some.injEq] at ee
        subst ee
        rcases h3 with h3 | h3
        · exact e (by rw [hv, h3])
        · have := h.mat.tops i x hi hv
          omega
theorem Sn.nil (w : World) (lo hi : Nat) : Sn w lo hi nilRow nilRow [] [] [] := ⟨⟨rfl, World.ownsRow_nil _ _ _ _, fun i hi => by simp at hi, fun k hk => by simp [Value.ownBlock] at hk, fun i k hi => by simp at hi, fun i j hi => by simp at hi⟩, World.ownsRow_nil _ _ _ _, fun k hk => by simp [Value.ownBlock] at hk, fun i hi => by simp at hi⟩
end Go.Proofs.YtbgadbokejaomaaGreatDoor

namespace Go.Proofs.YtbgadbokejaomaaGreatDoor
open Go.RowKit
open Gf (ci nat)
set_option linter.unusedVariables false

def TSn (vm ve : Value) (vs : List Value) (m : List (List Int)) (es : List Int) : Tg := fun lo hi w => Sn w lo hi vm ve vs m es
theorem TSn.st (vm ve : Value) (vs : List Value) (m : List (List Int)) (es : List Int) : (TSn vm ve vs m es).st := fun lo hi a b w w' h hc hd => ⟨h.mat.chg hc hd, ownsRow_chg h.ep h.te hc hd, h.te, h.ne⟩
end Go.Proofs.YtbgadbokejaomaaGreatDoor

namespace Go.Proofs.YtbgadbokejaomaaGreatDoor
open Go.RowKit
set_option linter.unusedVariables false
set_option linter.unusedSimpArgs false

theorem wfS {A : Int} (h : -100 ≤ A ∧ A ≤ 100) : (Lit.int .i64 A).wf = true := by
  simp [Lit.wf, IntKind.min, IntKind.max, IntKind.signed, IntKind.bits]
  omega
/-- There is such a stripe. -/
def thS (P H : List ByteArray) (B : List Bool) (es : List Int) (cu me K : Int) : Prop := scOk P H B es cu me ∧ 0 ≤ K ∧ K < (es.length : Int)
/-- A stripe's own Epoch, its sectors as they are found. -/
def epK (es : List Int) (K : Int) : Int := es.getD K.toNat 0
theorem thS_fits {P H : List ByteArray} {B : List Bool} {es : List Int} {cu me K : Int} (h : thS P H B es cu me K) : ∃ k : Nat, K = (k : Int) ∧ k < es.length ∧ k < 4 ∧ gkP P H B ∧ ftP P ((5 * k : Nat) : Int) ∧ (0 ≤ es.getD k 0 ∧ es.getD k 0 ≤ 60000) := by
  obtain ⟨⟨n14, nep, n5, gk, _⟩, h0, h1⟩ := h
  refine ⟨K.toNat, by omega, by omega, by omega, gk, ?_, nep _ (by omega)⟩
  unfold ftP
  omega
set_option maxRecDepth 100000 in
theorem firstSector_calls (k : Nat) (w : World) (hk : k ≤ 4) :
    Calls Tryz.prog 75 #[.int .i64 (k : Int)] w fun x w' => x = .returned (.int .i64 ((5 * k : Nat) : Int)) ∧ w = w' := by
  have h1 : wrap64 ((k : Int) * 5) = ((5 * k : Nat) : Int) := by rw [wrapS _ (by omega) (by omega)]; omega
  have h2 : IntKind.i64.wrap ((k : Int) * 5) = ((5 * k : Nat) : Int) := by rw [wrapS2 _ (by omega) (by omega)]; omega
  go_enter Tryz.func75, Tryz.ntmps75
  go_wp2
  go_ret
  first | exact ⟨rfl, rfl⟩ | (refine ⟨?_, rfl⟩; rw [h2]) | (refine ⟨?_, rfl⟩; rw [h1])

set_option maxRecDepth 100000 in
set_option maxHeartbeats 1600000 in
theorem hasStripe_calls (p h b e : Value) (cu me : Int) (P H : List ByteArray) (B : List Bool) (es : List Int) (K : Int) (t : Bool) (w : World) (d : RdSc w p h b e P H B es) (ht : t = true ↔ thS P H B es cu me K) :
    Calls Tryz.prog 74 #[.agg (scC p h b e cu me), .int .i64 K] w fun x w' => x = .returned (.bool t) ∧ Below w.heap.size w w' := by
  obtain ⟨ap, cp, ah, ch, ab, cb, ae, ce, rfl, rfl, rfl, rfl⟩ := d.sl
  have A0 := hide ((Hand.start w).box (scC (.slice ap P.length cp) (.slice ah H.length ch) (.slice ab B.length cb) (.slice ae es.length ce) cu me) 29)
  have D0 := hide (d.below A0.out.below)
  obtain ⟨g, hg⟩ := bol_exS (scOk P H B es cu me)
  have GD := hide (fun W q => goodScrub_calls (.slice ap P.length cp) (.slice ah H.length ch) (.slice ab B.length cb) (.slice ae es.length ce) cu me P H B es g W q hg)
  have HT := hide ht
  have HG := hide hg
  clear d ht hg
  obtain ⟨x0, x1, x2, x3, x4, x5⟩ := (A0.out.atBox 0 rfl).c6
  go_enter Tryz.func74, Tryz.ntmps74
  go_wp2_with fail
  refine (GD.out _ D0.out).mono ?_
  rintro x w1 ⟨rfl, q⟩
  have A1 := hide (A0.out.step q)
  clear q A0 D0 GD x0 x1 x2 x3 x4 x5
  obtain ⟨x0, x1, x2, x3, x4, x5⟩ := (A1.out.atBox 0 rfl).c6
  cases g with
  | false =>
    obtain rfl : t = false := by cases t with | false => rfl | true => have := HG.out.2 (HT.out.1 rfl).1; simp at this
    go_wp2
    go_ret
    exact ⟨by first | rfl | simp, A1.out.below⟩
  | true =>
  have EQ : Hid (t = true ↔ (0 ≤ K ∧ K < (es.length : Int))) := ⟨fun h => (HT.out.1 h).2, fun h => HT.out.2 ⟨HG.out.1 rfl, h⟩⟩
  clear HG HT
  go_wp2
  all_goals
    go_ret
    refine ⟨ret_bool ?_, A1.out.below⟩
    rw [Bool.eq_iff_iff, EQ.out]
    simp
    try omega

set_option maxRecDepth 100000 in
set_option maxHeartbeats 1600000 in
theorem l16There_calls (p h b e : Value) (cu me : Int) (P H : List ByteArray) (B : List Bool) (es : List Int) (K : Int) (t : Bool) (w : World) (d : RdSc w p h b e P H B es) (ht : t = true ↔ thS P H B es cu me K) :
    Calls Tryz.prog 73 #[.agg (scC p h b e cu me), .int .i64 K] w fun x w' => x = .returned (.bool t) ∧ Below w.heap.size w w' := by
  obtain ⟨ap, cp, ah, ch, ab, cb, ae, ce, rfl, rfl, rfl, rfl⟩ := d.sl
  have A0 := hide ((Hand.start w).box (scC (.slice ap P.length cp) (.slice ah H.length ch) (.slice ab B.length cb) (.slice ae es.length ce) cu me) 29)
  have D0 := hide (d.below A0.out.below)
  obtain ⟨g, hg⟩ := bol_exS (scOk P H B es cu me)
  have GD := hide (fun W q => sGoodScrub_calls (.slice ap P.length cp) (.slice ah H.length ch) (.slice ab B.length cb) (.slice ae es.length ce) cu me P H B es g W q hg)
  have HT := hide ht
  have HG := hide hg
  clear d ht hg
  obtain ⟨x0, x1, x2, x3, x4, x5⟩ := (A0.out.atBox 0 rfl).c6
  go_enter Tryz.func73, Tryz.ntmps73
  go_wp2_with fail
  refine (GD.out _ D0.out).mono ?_
  rintro x w1 ⟨rfl, q⟩
  have A1 := hide (A0.out.step q)
  clear q A0 D0 GD x0 x1 x2 x3 x4 x5
  obtain ⟨x0, x1, x2, x3, x4, x5⟩ := (A1.out.atBox 0 rfl).c6
  cases g with
  | false =>
    obtain rfl : t = false := by cases t with | false => rfl | true => have := HG.out.2 (HT.out.1 rfl).1; simp at this
    go_wp2
    go_ret
    exact ⟨by first | rfl | simp, A1.out.below⟩
  | true =>
  have EQ : Hid (t = true ↔ (0 ≤ K ∧ K < (es.length : Int))) := ⟨fun h => (HT.out.1 h).2, fun h => HT.out.2 ⟨HG.out.1 rfl, h⟩⟩
  clear HG HT
  go_wp2
  all_goals
    go_ret
    refine ⟨ret_bool ?_, A1.out.below⟩
    rw [Bool.eq_iff_iff, EQ.out]
    simp
    try omega

end Go.Proofs.YtbgadbokejaomaaGreatDoor

namespace Go.Proofs.YtbgadbokejaomaaGreatDoor
open Go.RowKit
open Gf (ci nat)
set_option linter.unusedVariables false

/-- A piece's sector. -/
def scT (A : Nat) (E : Int) (row : List Nat) : ByteArray := (frR 2 (A : Int) E (ofN row)).1
/-- What is held behind the first writes. -/
def wrTo (H : List ByteArray) (A : Nat) (E : Int) (m : List (List Nat)) (ks : List Nat) : Nat → List ByteArray
  | 0 => H
  | j + 1 => (wrTo H A E m ks j).set (A + ks.getD j 0) (scT (A + ks.getD j 0) E (m.getD (ks.getD j 0) []))
def wOk (B : List Bool) (A : Nat) (E : Int) (ks : List Nat) (n : Nat) : Prop := ∀ j, j < n → (0 ≤ E ∧ E ≤ 60000) ∧ B.getD (A + ks.getD j 0) false = false
def ifT {α : Type} (ok : Bool) (l : List α) : List α := if ok = true then l else []
theorem wrTo_length (H : List ByteArray) (A : Nat) (E : Int) (m : List (List Nat)) (ks : List Nat) : ∀ j, (wrTo H A E m ks j).length = H.length
  | 0 => rfl
  | j + 1 => by rw [wrTo, List.length_set, wrTo_length H A E m ks j]
theorem sc_good {A : Nat} {E : Int} {row : List Nat} (hA : A ≤ 24) (hE : 0 ≤ E ∧ E ≤ 60000) (hr : row.length = 16) : frR 2 (A : Int) E (ofN row) = (scT A E row, true) ∧ (scT A E row).size = 28 := by
  have hg : goodF 2 (A : Int) E (ofN row).size := ⟨⟨by omega, by omega, by omega⟩, hE, by rw [ofN_size]; omega⟩
  have e : frR 2 (A : Int) E (ofN row) = (ofN (frB (2 : Int).toNat (A : Int).toNat E.toNat (bs (ofN row))), true) := if_pos hg
  have e2 : scT A E row = ofN (frB (2 : Int).toNat (A : Int).toNat E.toNat (bs (ofN row))) := by unfold scT; rw [e]
  rw [e2]
  refine ⟨e, ?_⟩
  rw [ofN_size, frB_length (by rw [bs_length, ofN_size]; omega)]
theorem rd_nil' (w : World) : Rd w (.slice none 0 0) [] := ⟨none, 0, rfl, Nat.le_refl _, ⟨Nat.zero_le _, fun _ => rfl⟩, .inl rfl⟩
/-- A row of numbers, one of them. -/
theorem Rd.nth {w : World} {a : Option Addr} {n cap : Nat} {xs : List Int} (h : Rd w (.slice a n cap) xs) (k : Nat) (hk : k < xs.length) : ∃ b off, a = some ⟨b, off, none⟩ ∧ w.cell? ⟨b, off + k, none⟩ = some (.int .i64 (xs.getD k 0)) := by
  obtain ⟨a', cap', e, h1, h2, h3⟩ := h
  simp only [Value.slice.injEq] at e
  obtain ⟨rfl, _, rfl⟩ := e
  rcases h3 with h3 | ⟨b, off, rfl, hlt, hc⟩
  · subst h3; simp at hk
  · exact ⟨b, off, rfl, hc k hk⟩

set_option maxRecDepth 100000 in
set_option maxHeartbeats 1600000 in
theorem writePieces_calls (p h b : Value) (P H : List ByteArray) (B : List Bool) (A : Nat) (E : Int) (vm : Value) (m : List (List Nat)) (vk : Value) (ks : List Nat) (ok : Bool) (w : World) (gk : gkP P H B) (hA : A + 5 ≤ P.length)
    (hm : RdM w vm (m.map ci)) (ml : m.length = 5) (mr : ∀ i, i < 5 → (m.getD i []).length = 16 ∧ ∀ x ∈ m.getD i [], x < 256) (hk : Rd w vk (ci ks)) (kl : ks.length ≤ 5) (kr : ∀ j, j < ks.length → ks.getD j 0 < 5) (hok : ok = true ↔ wOk B A E ks ks.length)
    (hp : RdT w p P) (hh : RdT w h H) (hb : RdZ w b B) :
    Calls Tryz.prog 99 #[.agg #[p, h, b], .int .i64 (A : Int), .int .i64 E, vm, vk] w fun e w' => ∃ p' h' b', e = .returned (.tuple #[.agg #[p', h', b'], .bool ok]) ∧ DskV w' w.heap.size w'.heap.size p' h' b' (ifT ok P) (ifT ok (wrTo H A E m ks ks.length)) (ifT ok B) ∧ Below w.heap.size w w' := by
  have RP := hide hp
  have RH := hide hh
  have RB := hide hb
  have RM := hide hm
  have RK := hide hk
  have GK := hide gk
  have HOK := hide hok
  have MR := hide mr
  have KR := hide kr
  have ML := hide ml
  have h24 : P.length ≤ 24 := gk.1.2
  have C0 := hide (fun W h1 h2 h3 => copyDisk_calls p h b P H B W h1 h2 h3 ⟨by omega, h24⟩ (by rw [gk.2.1]; omega) (by rw [gk.2.2.1]; omega) gk.2.2.2.1 (by rw [gk.2.1]; exact gk.2.2.2.2.1))
  have S28 := hide gk.2.2.2.1
  have LH := hide gk.2.1
  have LB := hide gk.2.2.1
  have A0 : Hid (Hand w ((w.alloc (.cells #[p, h, b] 26)).alloc (.cells nil3 26)) [TBox (w.heap.size + 1) nil3 26, TBox w.heap.size #[p, h, b] 26]) := by
    show Hand _ _ _
    have := ((Hand.start w).box #[p, h, b] 26).box nil3 26
    simpa using this
  obtain ⟨ak, ck, hvk, _⟩ := hk
  rw [Gf.ci_length] at hvk
  subst hvk
  obtain ⟨am, cm, hvm, _⟩ := hm
  rw [List.length_map] at hvm
  subst hvm
  obtain ⟨mn, hmn⟩ : ∃ mn, mn = m.length := ⟨_, rfl⟩
  rw [← hmn] at RM ⊢
  have MN : Hid (mn = 5) := by show _ = _; rw [hmn, ml]
  clear gk hp hh hb hok mr kr hmn ml
  obtain ⟨c0, c1, c2⟩ := (A0.out.atBox 1 rfl).c3
  go_enter Tryz.func99, Tryz.ntmps99
  go_wp2_with fail
  refine (C0.out _ (RP.out.below A0.out.below) (RH.out.below A0.out.below) (RB.out.below A0.out.below)).mono ?_
  rintro e w1 ⟨p1, h1, b1, rfl, d1, q⟩
  obtain ⟨ap, cp, ah, ch, ab, cb, rfl, rfl, rfl⟩ := d1.sl
  have A1 := hide ((A0.out.add q (TDsk.st _ _ _ _ _ _) d1).box #[.slice ap P.length cp, .slice ah H.length ch, .slice ab B.length cb] 26)
  clear q d1 A0 c0 c1 c2
  obtain ⟨gn, hgn⟩ : ∃ gn, gn = w1.heap.size := ⟨_, rfl⟩
  rw [← hgn] at A1
  have HGN := hide hgn
  clear hgn
  obtain ⟨np, hnp⟩ : ∃ x, x = P.length := ⟨_, rfl⟩
  obtain ⟨nh, hnh⟩ : ∃ x, x = H.length := ⟨_, rfl⟩
  obtain ⟨nb, hnb⟩ : ∃ x, x = B.length := ⟨_, rfl⟩
  have hB5 : A + 5 ≤ np := by rw [hnp]; exact hA
  have hnp24 : np ≤ 24 := by rw [hnp]; exact h24
  rw [← hnp, ← hnh, ← hnb] at A1 ⊢
  have NP := hide hnp
  have NH : Hid (nh = np) := by show _ = _; rw [hnh, hnp]; exact LH.out
  have NB : Hid (nb = np) := by show _ = _; rw [hnb, hnp]; exact LB.out
  clear hnp hnh hnb hA h24
  go_wp2
  rw [← HGN.out]
  go_loopw [14, 19] (fun _ vi wr => ∃ k : Nat, k ≤ ks.length ∧ vi = .int .i64 k ∧ Hand w wr [TBox gn #[.slice ap np cp, .slice ah nh ch, .slice ab nb cb] 26, TDsk (.slice ap np cp) (.slice ah nh ch) (.slice ab nb cb) P (wrTo H A E m ks k) B, TBox (w.heap.size + 1) nil3 26, TBox w.heap.size #[p, h, b] 26] ∧ wOk B A E ks k) (fun _ vi _ => ks.length - (intOf vi).toNat)
  case atStart => exact ⟨0, Nat.zero_le _, rfl, A1.out, fun j hj => by omega⟩
  case round =>
    clear A1
    obtain ⟨k, hk, rfl, hH, hw⟩ := hrel
    have AH := hide hH
    have WO := hide hw
    clear hH hw
    by_cases hlt : k < ks.length
    · have hlt' : (k : Int) < (ks.length : Int) := by omega
      obtain ⟨kb, ko, hka, hkc⟩ := (RK.out.below AH.out.below).nth k (by rw [Gf.ci_length]; exact hlt)
      subst hka
      rw [Gf.ci_getD] at hkc
      have hz5 := KR.out k hlt
      have WS : Hid (wrTo H A E m ks (k + 1) = (wrTo H A E m ks k).set (A + ks.getD k 0) (scT (A + ks.getD k 0) E (m.getD (ks.getD k 0) []))) := rfl
      have WK : Hid (∀ hh : (0 ≤ E ∧ E ≤ 60000) ∧ B.getD (A + ks.getD k 0) false = false, wOk B A E ks (k + 1)) := fun hh j hj => by
        by_cases e : j = k
        · subst e; exact hh
        · exact WO.out j (by omega)
      have WN : Hid (ok = true → (0 ≤ E ∧ E ≤ 60000) ∧ B.getD (A + ks.getD k 0) false = false) := fun e => HOK.out.1 e k hlt
      generalize hzz : ks.getD k 0 = z at *
      clear hzz
      have LW := hide (wrTo_length H A E m ks k)
      generalize wrTo H A E m ks k = Hk at *
      have hzi : (z : Int) < (mn : Int) := by rw [MN.out]; omega
      obtain ⟨mb, mo, u, hma, _, hmc, hu⟩ := RM.out.rowAt z (by rw [List.length_map, ML.out]; exact hz5)
      have MC : Hid (∀ W', Below w.heap.size w W' → W'.cell? ⟨mb, mo + z, none⟩ = some u) := fun W' hb => (hb.cell (World.block_lt_of_cell? _ _ hmc)).trans hmc
      clear hmc
      subst hma
      obtain ⟨r1, r2⟩ := MR.out z hz5
      have hmg : (m.map ci).getD z [] = ci (m.getD z []) := by
        simp only [List.getD_eq_getElem?_getD]
        rw [List.getElem?_map, List.getElem?_eq_getElem (by rw [ML.out]; exact hz5)]
        rfl
      rw [hmg] at hu
      have U := hide hu
      obtain ⟨ua, uc, hu2, _⟩ := hu
      rw [Gf.ci_length, r1] at hu2
      subst hu2
      have C1 := hide (fun W v hv => bodyOf_calls v (m.getD z []) W hv r2 (by omega))
      have E5 : Hid (IntKind.i64.wrap ((A : Int) + (z : Int)) = ((A + z : Nat) : Int)) := by
        show _ = _
        simp [IntKind.wrap, IntKind.bits, IntKind.signed]
        omega
      have GF : Hid (goodF 2 ((A + z : Nat) : Int) E (ofN (m.getD z [])).size ↔ (0 ≤ E ∧ E ≤ 60000)) := by
        show _ ↔ _
        rw [ofN_size, r1]
        exact ⟨fun h => h.2.1, fun h => ⟨⟨by omega, by omega, by omega⟩, h, by omega⟩⟩
      have BL : Hid ((ofN (m.getD z [])).size ≤ maxLen) := by
        show _ ≤ _
        rw [ofN_size, r1]; unfold maxLen; omega
      clear hmg r1 r2
      obtain ⟨y, hy⟩ : ∃ y : Bool, y = true ↔ ((0 ≤ E ∧ E ≤ 60000) ∧ B.getD (A + z) false = false) := by
        by_cases h : (0 ≤ E ∧ E ≤ 60000) ∧ B.getD (A + z) false = false
        · exact ⟨true, by simp only [h, and_self]⟩
        · exact ⟨false, by simp only [h, Bool.false_eq_true]⟩
      have C2 : Hid (∀ lo hi W, DskV W lo hi (.slice ap np cp) (.slice ah nh ch) (.slice ab nb cb) P Hk B → hi ≤ W.heap.size →
          Calls Tryz.prog 146 #[.agg #[.slice ap np cp, .slice ah nh ch, .slice ab nb cb], .agg #[.int .i64 2, .int .i64 ((A + z : Nat) : Int), .int .i64 E, .string (ofN (m.getD z []))]] W fun e w' => e = .returned (.bool y) ∧ (y = true → DskV w' lo hi (.slice ap np cp) (.slice ah nh ch) (.slice ab nb cb) P (Hk.set (A + z) (scT (A + z) E (m.getD z []))) B) ∧ Chg lo hi W w') :=
        fun lo hi W dd q => holdFrame_calls (.slice ap np cp) (.slice ah nh ch) (.slice ab nb cb) P Hk B 2 E (A + z) (ofN (m.getD z [])) lo hi np y W dd q NP.out.symm (by rw [LW.out, LH.out, NP.out]) (by rw [LB.out, NP.out]) ⟨by omega, hnp24⟩ (by omega) BL.out (hy.trans ⟨fun h => ⟨GF.out.2 h.1, h.2⟩, fun h => ⟨GF.out.1 h.1, h.2⟩⟩)
      have HY := hide hy
      clear hy GF BL
      generalize scT (A + z) E (m.getD z []) = T at *
      generalize ofN (m.getD z []) = bo at *
      go_upto_region 5 with fail
      have AD := hide (AH.out.step (Below.refl wr.heap.size wr).drew)
      clear AH hkc
      have XS : Hid (∀ W' L, Hand w W' (TBox gn #[.slice ap np cp, .slice ah nh ch, .slice ab nb cb] 26 :: L) → (W'.cell? ⟨gn, 0, none⟩ = some (.slice ap np cp) ∧ W'.cell? ⟨gn, 1, none⟩ = some (.slice ah nh ch) ∧ W'.cell? ⟨gn, 2, none⟩ = some (.slice ab nb cb)) ∧ W'.cell? ⟨mb, mo + z, none⟩ = some (.slice ua 16 uc)) := fun W' L AA => ⟨(AA.atBox 0 rfl).c3, MC.out _ AA.below⟩
      go_region_held3 (fun w' => (w'.cell? ⟨gn, 0, none⟩ = some (.slice ap np cp) ∧ w'.cell? ⟨gn, 1, none⟩ = some (.slice ah nh ch) ∧ w'.cell? ⟨gn, 2, none⟩ = some (.slice ab nb cb)) ∧ w'.cell? ⟨mb, mo + z, none⟩ = some (.slice ua 16 uc)) (first | exact XS.out _ _ A4.out | exact XS.out _ _ A3.out | exact XS.out _ _ AD.out)
        ((first | (go_at_call 146; rw [E5.out]; refine (C2.out lo hi _ D3.out hw3).mono ?_; rintro e w4 ⟨rfl, sp1, sp2⟩; have A4 := hide (PUT.out w4 (fun lo hi W => y = true → DskV W lo hi (.slice ap np cp) (.slice ah nh ch) (.slice ab nb cb) P (Hk.set (A + z) T) B) (fun _ _ _ _ _ _ hh hc hd ey => (hh ey).chg hc hd) sp1 sp2); clear sp1 sp2) | (go_at_call 147; refine (C1.out _ _ (U.out.below AD.out.below)).mono ?_; rintro e w2 ⟨rfl, q⟩; have A3 := hide (AD.out.step q); clear q; obtain ⟨lo, hi, d3, lw, hw3, put⟩ := A3.out.open 1 rfl; have D3 : Hid (DskV w2 lo hi (.slice ap np cp) (.slice ah nh ch) (.slice ab nb cb) P Hk B) := d3; have PUT := hide put; clear d3 put)))
      cases y with
      | true =>
        have WKK := hide (WK.out (HY.out.1 rfl))
        obtain ⟨l4, h4, d4, _, _, put⟩ := A4.out.open 1 rfl
        have A5 := hide (put _ (TDsk (.slice ap np cp) (.slice ah nh ch) (.slice ab nb cb) P (Hk.set (A + z) T) B) (TDsk.st _ _ _ _ _ _) (d4 rfl) (Chg.refl _ _ _))
        clear d4 put PUT D3 C2 A3 A4 AD XS hw3 lw HY WK WN
        go_wp2
        go_roundw
        case rel =>
          refine ⟨k + 1, by omega, by go_num, ?_, WKK.out⟩
          rw [WS.out]
          exact A5.out
        case measure => simp [intOf]; omega
      | false =>
        have okf : ok = false := by
          cases ok with
          | false => rfl
          | true => have := HY.out.2 (WN.out rfl); simp at this
        subst okf
        clear PUT D3 C2 A3 AD XS hw3 lw HY WK WN
        obtain ⟨d0, d1, d2⟩ := (A4.out.atBox 2 rfl).c3
        have g0 := (A4.out.atBox 2 rfl).frozen 0
        have g1' := (A4.out.atBox 2 rfl).frozen 1
        have g2' := (A4.out.atBox 2 rfl).frozen 2
        have AZ := hide (A4.out.store3 2 rfl (.slice none 0 0) (.slice none 0 0) (.slice none 0 0))
        go_wp2
        exact bodyPost_ret (res_dsk2 rfl _ _ (w.heap.size + 1) _ _ _ (0, 0) rfl (AZ.out.atBox 2 rfl)) rfl ⟨_, _, _, rfl, DskV.nil _ _ _, AZ.out.below⟩
    · obtain rfl : k = ks.length := by omega
      have okt : ok = true := HOK.out.2 WO.out
      subst okt
      obtain ⟨c0, c1, c2⟩ := (AH.out.atBox 0 rfl).c3
      obtain ⟨d0, d1, d2⟩ := (AH.out.atBox 2 rfl).c3
      have g0 := (AH.out.atBox 2 rfl).frozen 0
      have g1' := (AH.out.atBox 2 rfl).frozen 1
      have g2' := (AH.out.atBox 2 rfl).frozen 2
      have AZ := hide (AH.out.store3 2 rfl (.slice ap np cp) (.slice ah nh ch) (.slice ab nb cb))
      go_wp2
      obtain ⟨lo, hi, d3, lw, hw3, _⟩ := AZ.out.open 1 rfl
      have D3 : DskV _ lo hi (.slice ap np cp) (.slice ah nh ch) (.slice ab nb cb) P (wrTo H A E m ks ks.length) B := d3
      exact bodyPost_ret (res_dsk2 rfl _ _ (w.heap.size + 1) _ _ _ (0, 0) rfl (AZ.out.atBox 2 rfl)) rfl ⟨_, _, _, rfl, D3.wider lw hw3, AZ.out.below⟩
end Go.Proofs.YtbgadbokejaomaaGreatDoor
