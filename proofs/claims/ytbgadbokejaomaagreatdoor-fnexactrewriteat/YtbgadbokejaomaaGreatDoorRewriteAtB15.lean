/-
  A frame's bytes, the model's function; the law that holds the program's FrameBytes against it: call by call. No condition but a bound on the body's length. What is read of a sector's bytes: the program's functions, call by call. Each contract says what it asks. A frame read from a sector's bytes: the program's function, call by call. The sector has its length. A frame read: the program's ReadFrame and CheckFrame, call by call. No condition but a bound on the text's length. A sector read: the model's ReadSector, call by call. The contract says what it asks. The frame that a sector tells: the program's readFrameAt. Each contract says what it asks. Scrubs as values: what they hold, where their lists lie; compared, marked, and whether the marks are held, call by call. Each contract says what it asks. A scrub that came in, opened. No condition; no call is walked here.
-/
import Derived.Test.YtbgadbokejaomaaGreatDoorRewriteAtB14
import Derived.Deep.RegionHeld3
import Derived.Test.YtbgadbokejaomaaGreatDoorRewriteAtB8
import Derived.Test.YtbgadbokejaomaaGreatDoorRewriteAtB13
import Derived.Test.YtbgadbokejaomaaGreatDoorRewriteAtB7
namespace Go.Proofs.YtbgadbokejaomaaGreatDoor
open Go.RowKit

end Go.Proofs.YtbgadbokejaomaaGreatDoor

namespace Go.Proofs.YtbgadbokejaomaaGreatDoor
open Go.RowKit

set_option maxRecDepth 100000 in
set_option maxHeartbeats 800000 in
theorem cutBytes_calls (g len cap f n : Nat) (w : World) (hf : f + n ≤ cap) (hc : f + n ≤ 1073741824) (hn : 0 < n) :
    Calls Tryz.prog 174 #[.slice (some ⟨g, 0, none⟩) len cap, .int .i64 f, .int .i64 n] w fun e w' => e = .returned (.slice (some ⟨g, f, none⟩) n n) ∧ w = w' := by
  have t1 : (f : Int) + (n : Int) ≤ (cap : Int) := by omega
  have t3 : ((f : Int) + (n : Int)).toNat = f + n := by omega
  have t4 : ¬ f + n = f := by omega
  have t5 : f + n - f = n := by omega
  go_enter Tryz.func174, Tryz.ntmps174
  go_wp2
  go_ret
  exact ⟨rfl, rfl⟩
set_option maxRecDepth 100000 in
set_option maxHeartbeats 800000 in
theorem cutBytes_none (g len cap f : Nat) (w : World) (hf : f ≤ cap) (hc : f ≤ 1073741824) :
    Calls Tryz.prog 174 #[.slice (some ⟨g, 0, none⟩) len cap, .int .i64 f, .int .i64 0] w fun e w' => e = .returned (.slice (some ⟨g, 0, none⟩) 0 0) ∧ w = w' := by
  have t1 : (f : Int) ≤ (cap : Int) := by omega
  go_enter Tryz.func174, Tryz.ntmps174
  go_wp2
  go_ret
  exact ⟨rfl, rfl⟩
/-- Where a piece of n bytes from f on lies. -/
def cutO (f n : Nat) : Nat := if n = 0 then 0 else f
theorem cutBytes_any (g len cap f n : Nat) (w : World) (hf : f + n ≤ cap) (hc : f + n ≤ 1073741824) :
    Calls Tryz.prog 174 #[.slice (some ⟨g, 0, none⟩) len cap, .int .i64 f, .int .i64 n] w fun e w' => e = .returned (.slice (some ⟨g, cutO f n, none⟩) n n) ∧ w = w' := by
  by_cases h : n = 0
  · subst h
    exact cutBytes_none g len cap f w hf hc
  · unfold cutO
    rw [if_neg h]
    exact cutBytes_calls g len cap f n w hf hc (by omega)
theorem BRow.cut {w : World} {g m f n : Nat} {l : List Nat} (h : BRow w g m l) (hl : ∀ b ∈ l, b < 256) (hn : f + n ≤ l.length) :
    (convert 56 9 (.slice (some ⟨g, cutO f n, none⟩) n n)).run Tryz.prog w = .ok (.string (ofN ((l.drop f).take n))) w := by
  have := run_convert_bytes_back (P := Tryz.prog) w 56 9 5 ⟨g, cutO f n, none⟩ n (((l.drop f).take n).map UInt8.ofNat) Tryz.underlying56 Tryz.underlying5 Tryz.underlying9 (fun j hj => by
    have hj' : j < n := by simp at hj; omega
    have hadd : (⟨g, cutO f n, none⟩ : Addr).add j = ⟨g, cutO f n + j, none⟩ := by unfold Addr.add; split <;> simp_all
    have hcu : cutO f n = f := if_neg (by omega)
    rw [hadd, hcu, h.cell (f + j) (by omega), List.getD_eq_getElem?_getD, List.getElem?_eq_getElem (by omega), List.getElem_map, List.getElem_take, List.getElem_drop, Option.getD_some]
    rw [UInt8.toNat_ofNat', Nat.mod_eq_of_lt (hl _ (List.getElem_mem _))])
  rw [List.length_map, List.length_take, List.length_drop, Nat.min_eq_left (by omega)] at this
  exact this
theorem BRow.kept {w w' : World} {g m : Nat} {l : List Nat} (h : BRow w g m l) (hb : Below w.heap.size w w') : BRow w' g m l := by
  have hl := h.lt
  obtain ⟨C, h1, h2⟩ := h
  exact ⟨C, by rw [hb.block g hl]; exact h1, h2⟩
end Go.Proofs.YtbgadbokejaomaaGreatDoor

namespace Go.Proofs.YtbgadbokejaomaaGreatDoor
open Go.RowKit

theorem store4 {w : World} {p : Nat} {a b c d : Value} {T : TypeId} (h : w.heap[p]? = some (.cells #[a, b, c, d] T (0, 0))) (v0 v1 v2 v3 : Value) :
    ((((w.setCell ⟨p, 0, none⟩ v0).setCell ⟨p, 1, none⟩ v1).setCell ⟨p, 2, none⟩ v2).setCell ⟨p, 3, none⟩ v3).heap[p]? = some (.cells #[v0, v1, v2, v3] T (0, 0)) := by
  have h0 := heap_setCell_same w p 0 _ _ v0 h
  have h1 := heap_setCell_same _ p 1 _ _ v1 h0
  have h2 := heap_setCell_same _ p 2 _ _ v2 h1
  have h3 := heap_setCell_same _ p 3 _ _ v3 h2
  simpa using h3
end Go.Proofs.YtbgadbokejaomaaGreatDoor

namespace Go.Proofs.YtbgadbokejaomaaGreatDoor
open Go.RowKit
set_option linter.unusedVariables false

end Go.Proofs.YtbgadbokejaomaaGreatDoor

namespace Go.Proofs.YtbgadbokejaomaaGreatDoor
open Go.RowKit
set_option linter.unusedVariables false

end Go.Proofs.YtbgadbokejaomaaGreatDoor

namespace Go.Proofs.YtbgadbokejaomaaGreatDoor
open Go.RowKit
set_option linter.unusedVariables false

abbrev frC (K A E : Int) (b : ByteArray) : Array Value := #[.int .i64 K, .int .i64 A, .int .i64 E, .string b]
theorem Hand.twoR (w : World) (c1 c2 : Array Value) (T1 T2 : TypeId) : Hand w ((w.alloc (.cells c1 T1)).alloc (.cells c2 T2)) [TBox (w.heap.size + 1) c2 T2, TBox w.heap.size c1 T1] := by
  have h := ((Hand.start w).box c1 T1).box c2 T2
  simpa only [World.size_alloc] using h

end Go.Proofs.YtbgadbokejaomaaGreatDoor

namespace Go.Proofs.YtbgadbokejaomaaGreatDoor
open Go.RowKit
set_option linter.unusedVariables false
set_option linter.unusedSimpArgs false

/-- A scrub's block: its disk's three lists, Epochs, Cursor, Mended. -/
abbrev scC (p h b e : Value) (cu me : Int) : Array Value := #[p, h, b, e, .int .i64 cu, .int .i64 me]
abbrev sc0 : Array Value := scC (.slice none 0 0) (.slice none 0 0) (.slice none 0 0) (.slice none 0 0) 0 0
theorem BoxAt.c6 {w : World} {g : Nat} {a b c d e f : Value} {T : TypeId} (h : BoxAt w g #[a, b, c, d, e, f] T) : w.cell? ⟨g, 0, none⟩ = some a ∧ w.cell? ⟨g, 1, none⟩ = some b ∧ w.cell? ⟨g, 2, none⟩ = some c ∧ w.cell? ⟨g, 3, none⟩ = some d ∧ w.cell? ⟨g, 4, none⟩ = some e ∧ w.cell? ⟨g, 5, none⟩ = some f :=
  ⟨h.cell 0, h.cell 1, h.cell 2, h.cell 3, h.cell 4, h.cell 5⟩
theorem bol_exS (p : Prop) : ∃ t : Bool, t = true ↔ p := by
  by_cases h : p
  · exact ⟨true, by simp [h]⟩
  · exact ⟨false, by simp [h]⟩

theorem Rd.cellS {w : World} {a : Option Addr} {n cap : Nat} {xs : List Int} (h : Rd w (.slice a n cap) xs) (i : Nat) (hi : i < xs.length) : ∃ b off, a = some ⟨b, off, none⟩ ∧ w.cell? ⟨b, off + i, none⟩ = some (.int .i64 (xs.getD i 0)) := by
  obtain ⟨a', cap', e, h1, h2, h3⟩ := h
  simp only [Value.slice.injEq] at e
  obtain ⟨rfl, _, rfl⟩ := e
  rcases h3 with rfl | ⟨b, off, rfl, hlt, hc⟩
  · simp at hi
  · exact ⟨b, off, rfl, hc i hi⟩

/-- A scrub's lists of the call's own, in blocks from lo up to hi: the disk's in a part of these, the Epochs outside that part. -/
structure SrbV (w : World) (lo hi : Nat) (p h b e : Value) (P H : List ByteArray) (B : List Bool) (es : List Int) : Prop where
  disk : ∃ l u, (lo ≤ l ∧ u ≤ hi) ∧ DskV w l u p h b P H B ∧ ∀ k, e.ownBlock = some k → k < l ∨ u ≤ k
  eps : Own w lo e es
  te : ∀ k, e.ownBlock = some k → k < hi
theorem SrbV.chg {w w' : World} {lo hi x y : Nat} {p h b e : Value} {P H : List ByteArray} {B : List Bool} {es : List Int} (d : SrbV w lo hi p h b e P H B es) (hc : Chg x y w w') (hd : hi ≤ x ∨ y ≤ lo) : SrbV w' lo hi p h b e P H B es := by
  obtain ⟨l, u, h1, h2, h3⟩ := d.disk
  exact ⟨⟨l, u, h1, h2.chg hc (by omega), h3⟩, ownsRow_chg d.eps d.te hc hd, d.te⟩
theorem SrbV.below {w w' : World} {lo hi : Nat} {p h b e : Value} {P H : List ByteArray} {B : List Bool} {es : List Int} (d : SrbV w lo hi p h b e P H B es) (hb : Below w.heap.size w w') : SrbV w' lo hi p h b e P H B es := by
  obtain ⟨l, u, h1, h2, h3⟩ := d.disk
  exact ⟨⟨l, u, h1, h2.below hb, h3⟩, ownsRow_below d.eps hb, d.te⟩
theorem SrbV.wider {w : World} {lo hi lo' hi' : Nat} {p h b e : Value} {P H : List ByteArray} {B : List Bool} {es : List Int} (d : SrbV w lo hi p h b e P H B es) (h1 : lo' ≤ lo) (h2 : hi ≤ hi') : SrbV w lo' hi' p h b e P H B es := by
  obtain ⟨l, u, h3, h4, h5⟩ := d.disk
  exact ⟨⟨l, u, by omega, h4, h5⟩, ownsRow_mono d.eps h1, fun k hk => Nat.lt_of_lt_of_le (d.te k hk) h2⟩
theorem SrbV.sl {w : World} {lo hi : Nat} {p h b e : Value} {P H : List ByteArray} {B : List Bool} {es : List Int} (d : SrbV w lo hi p h b e P H B es) :
    ∃ ap cp ah ch ab cb ae ce, p = .slice ap P.length cp ∧ h = .slice ah H.length ch ∧ b = .slice ab B.length cb ∧ e = .slice ae es.length ce := by
  obtain ⟨l, u, h1, h2, h3⟩ := d.disk
  obtain ⟨ap, cp, ah, ch, ab, cb, e1, e2, e3⟩ := h2.sl
  obtain ⟨ae, ce, e4⟩ := row_slice d.eps
  exact ⟨ap, cp, ah, ch, ab, cb, ae, ce, e1, e2, e3, e4⟩
theorem SrbV.nil (w : World) (lo hi : Nat) (h : lo ≤ hi) : SrbV w lo hi (.slice none 0 0) (.slice none 0 0) (.slice none 0 0) (.slice none 0 0) [] [] [] [] :=
  ⟨⟨lo, lo, ⟨Nat.le_refl _, h⟩, ⟨World.ownsRow_nil _ _ _ _, World.ownsRow_nil _ _ _ _, World.ownsRow_nil _ _ _ _, fun k hk => by simp [Value.ownBlock] at hk, fun k hk => by simp [Value.ownBlock] at hk, fun k hk => by simp [Value.ownBlock] at hk, .inl rfl, by simp, by simp⟩, fun k hk => by simp [Value.ownBlock] at hk⟩,
    World.ownsRow_nil _ _ _ _, fun k hk => by simp [Value.ownBlock] at hk⟩
/-- A scrub's four lists, as they read. -/
structure RdSc (w : World) (p h b e : Value) (P H : List ByteArray) (B : List Bool) (es : List Int) : Prop where
  rp : RdT w p P
  rh : RdT w h H
  rb : RdZ w b B
  re : Rd w e es
theorem RdSc.below {w w' : World} {p h b e : Value} {P H : List ByteArray} {B : List Bool} {es : List Int} (d : RdSc w p h b e P H B es) (hb : Below w.heap.size w w') : RdSc w' p h b e P H B es :=
  ⟨d.rp.below hb, d.rh.below hb, d.rb.below hb, d.re.below hb⟩
theorem SrbV.rd {w : World} {lo hi : Nat} {p h b e : Value} {P H : List ByteArray} {B : List Bool} {es : List Int} (d : SrbV w lo hi p h b e P H B es) : RdSc w p h b e P H B es := by
  obtain ⟨l, u, h1, h2, h3⟩ := d.disk
  exact ⟨h2.rp, h2.rh, h2.rb, Own.rd d.eps⟩
theorem RdSc.sl {w : World} {p h b e : Value} {P H : List ByteArray} {B : List Bool} {es : List Int} (d : RdSc w p h b e P H B es) :
    ∃ ap cp ah ch ab cb ae ce, p = .slice ap P.length cp ∧ h = .slice ah H.length ch ∧ b = .slice ab B.length cb ∧ e = .slice ae es.length ce := by
  obtain ⟨ap, cp, e1, _, _⟩ := d.rp.sl
  obtain ⟨ah, ch, e2, _, _⟩ := d.rh.sl
  obtain ⟨ab, cb, e3, _, _⟩ := d.rb.sl
  obtain ⟨ae, ce, e4, _, _⟩ := d.re.sl
  exact ⟨ap, cp, ah, ch, ab, cb, ae, ce, e1, e2, e3, e4⟩
/-- A scrub of the call's own. -/
def TSrb (p h b e : Value) (P H : List ByteArray) (B : List Bool) (es : List Int) : Tg := fun lo hi w => SrbV w lo hi p h b e P H B es
theorem TSrb.st (p h b e : Value) (P H : List ByteArray) (B : List Bool) (es : List Int) : (TSrb p h b e P H B es).st := fun lo hi x y w w' h hc hd => h.chg hc hd

theorem scInfo : (Tryz.prog.info? 29).map (·.size) = some 6 := by kernel_rfl
theorem res_sc {fn : Func} {x : Tmp} (hf : fn.results = #[.cell x 29]) (tmps : Array Value) (w : World) (g : Nat) (p h b e : Value) (cu me : Int) (fr : Nat × Nat) (hp : tmps.getD x undef = .pointer (some ⟨g, 0, none⟩))
    (hg : w.heap[g]? = some (.cells (scC p h b e cu me) 29 fr)) : (results fn tmps).run Tryz.prog w = .ok (.agg (scC p h b e cu me)) w :=
  results_cell_row hf tmps w g _ _ fr _ hp hg Tryz.underlying29 rfl scInfo
theorem res_sc2 {fn : Func} {x u : Tmp} (hf : fn.results = #[.cell x 29, .tmp u]) (tmps : Array Value) (w : World) (g : Nat) (p h b e : Value) (cu me : Int) (fr : Nat × Nat) (hp : tmps.getD x undef = .pointer (some ⟨g, 0, none⟩))
    (hg : w.heap[g]? = some (.cells (scC p h b e cu me) 29 fr)) : (results fn tmps).run Tryz.prog w = .ok (.tuple #[.agg (scC p h b e cu me), tmps.getD u undef]) w := by
  have hp' : tmps[x]?.getD undef = .pointer (some ⟨g, 0, none⟩) := by simpa using hp
  simp [results, hf, hp', asAddr, run_loadVar_row w g _ _ _ fr _ hg Tryz.underlying29 rfl scInfo]
/-- All of a scrub's block stored. -/
theorem BoxAt.store6 {w : World} {g : Nat} {a b c d e f : Value} {T : TypeId} (h : BoxAt w g #[a, b, c, d, e, f] T) (v0 v1 v2 v3 v4 v5 : Value) :
    BoxAt ((((((w.setCell ⟨g, 0, none⟩ v0).setCell ⟨g, 1, none⟩ v1).setCell ⟨g, 2, none⟩ v2).setCell ⟨g, 3, none⟩ v3).setCell ⟨g, 4, none⟩ v4).setCell ⟨g, 5, none⟩ v5) g #[v0, v1, v2, v3, v4, v5] T := by
  simpa using (((((h.set 0 v0).set 1 v1).set 2 v2).set 3 v3).set 4 v4).set 5 v5
theorem Chg.store6 {lo hi : Nat} (w : World) (g : Nat) (v0 v1 v2 v3 v4 v5 : Value) (h1 : lo ≤ g) (h2 : g < hi) :
    Chg lo hi w ((((((w.setCell ⟨g, 0, none⟩ v0).setCell ⟨g, 1, none⟩ v1).setCell ⟨g, 2, none⟩ v2).setCell ⟨g, 3, none⟩ v3).setCell ⟨g, 4, none⟩ v4).setCell ⟨g, 5, none⟩ v5) :=
  ((Chg.store4 _ _ _ _ _ _ h1 h2).trans (Chg.ofSetCell _ _ _ _ h1 h2)).trans (Chg.ofSetCell _ _ _ _ h1 h2)
theorem Hand.store6 {W w : World} {L : List Tg} {g : Nat} {a b c d e f : Value} {T : TypeId} (A : Hand W w L) (j : Nat) (hj : L[j]? = some (TBox g #[a, b, c, d, e, f] T)) (v0 v1 v2 v3 v4 v5 : Value) :
    Hand W ((((((w.setCell ⟨g, 0, none⟩ v0).setCell ⟨g, 1, none⟩ v1).setCell ⟨g, 2, none⟩ v2).setCell ⟨g, 3, none⟩ v3).setCell ⟨g, 4, none⟩ v4).setCell ⟨g, 5, none⟩ v5) (L.set j (TBox g #[v0, v1, v2, v3, v4, v5] T)) := by
  obtain ⟨lo, hi', ⟨b1, b2, b3⟩, _, _, put⟩ := A.open j hj
  exact put _ (TBox g #[v0, v1, v2, v3, v4, v5] T) (TBox.st _ _ _) ⟨b1, b2, b3.store6 v0 v1 v2 v3 v4 v5⟩ (Chg.store6 w g v0 v1 v2 v3 v4 v5 b1 b2)
theorem Hand.lay3S {W w : World} {L : List Tg} {g : Nat} {a b c d e f : Value} {T : TypeId} (A : Hand W w L) (j : Nat) (hj : L[j]? = some (TBox g #[a, b, c, d, e, f] T)) (v0 v1 v2 : Value) :
    Hand W (((w.setCell ⟨g, 0, none⟩ v0).setCell ⟨g, 1, none⟩ v1).setCell ⟨g, 2, none⟩ v2) (L.set j (TBox g #[v0, v1, v2, d, e, f] T)) := by
  obtain ⟨lo, hi', ⟨b1, b2, b3⟩, _, _, put⟩ := A.open j hj
  exact put _ (TBox g #[v0, v1, v2, d, e, f] T) (TBox.st _ _ _) ⟨b1, b2, by simpa using ((b3.set 0 v0).set 1 v1).set 2 v2⟩ (((Chg.ofSetCell w g 0 v0 b1 b2).trans (Chg.ofSetCell _ g 1 v1 b1 b2)).trans (Chg.ofSetCell _ g 2 v2 b1 b2))
theorem Hand.layE {W w : World} {L : List Tg} {g : Nat} {a b c d e f : Value} {T : TypeId} (A : Hand W w L) (j : Nat) (hj : L[j]? = some (TBox g #[a, b, c, d, e, f] T)) (v : Value) :
    Hand W (w.setCell ⟨g, 3, none⟩ v) (L.set j (TBox g #[a, b, c, v, e, f] T)) := by
  obtain ⟨lo, hi', ⟨b1, b2, b3⟩, _, _, put⟩ := A.open j hj
  exact put _ (TBox g #[a, b, c, v, e, f] T) (TBox.st _ _ _) ⟨b1, b2, by simpa using b3.set 3 v⟩ (Chg.ofSetCell w g 3 v b1 b2)
theorem Hand.layC {W w : World} {L : List Tg} {g : Nat} {a b c d e f : Value} {T : TypeId} (A : Hand W w L) (j : Nat) (hj : L[j]? = some (TBox g #[a, b, c, d, e, f] T)) (v : Value) :
    Hand W (w.setCell ⟨g, 4, none⟩ v) (L.set j (TBox g #[a, b, c, d, v, f] T)) := by
  obtain ⟨lo, hi', ⟨b1, b2, b3⟩, _, _, put⟩ := A.open j hj
  exact put _ (TBox g #[a, b, c, d, v, f] T) (TBox.st _ _ _) ⟨b1, b2, by simpa using b3.set 4 v⟩ (Chg.ofSetCell w g 4 v b1 b2)
theorem Hand.layM {W w : World} {L : List Tg} {g : Nat} {a b c d e f : Value} {T : TypeId} (A : Hand W w L) (j : Nat) (hj : L[j]? = some (TBox g #[a, b, c, d, e, f] T)) (v : Value) :
    Hand W (w.setCell ⟨g, 5, none⟩ v) (L.set j (TBox g #[a, b, c, d, e, v] T)) := by
  obtain ⟨lo, hi', ⟨b1, b2, b3⟩, _, _, put⟩ := A.open j hj
  exact put _ (TBox g #[a, b, c, d, e, v] T) (TBox.st _ _ _) ⟨b1, b2, by simpa using b3.set 5 v⟩ (Chg.ofSetCell w g 5 v b1 b2)
theorem Hand.srb {W w : World} {L : List Tg} {p h b e : Value} {P H : List ByteArray} {B : List Bool} {es : List Int} (A : Hand W w (TInts e es :: TDsk p h b P H B :: L)) : SrbV w W.heap.size w.heap.size p h b e P H B es := by
  obtain ⟨lo1, hi1, ⟨_, o1, t1⟩, l1, l2, lo3, hi3, ⟨_, d⟩, l5, l6, rest⟩ := A.held
  have hb := HeldG.base rest
  refine ⟨⟨lo3, hi3, ⟨hb, by omega⟩, d, fun k hk => .inr (by have := row_low o1 k hk; omega)⟩, ownsRow_mono o1 (by omega), fun k hk => by have := t1 k hk; omega⟩

set_option maxRecDepth 100000 in
set_option maxHeartbeats 1600000 in
theorem eqScrub_same (p h b e p' h' b' e' : Value) (cu me : Int) (P H : List ByteArray) (B : List Bool) (es : List Int) (w : World) (d : RdSc w p h b e P H B es) (d' : RdSc w p' h' b' e' P H B es) :
    Calls Tryz.prog 17 #[.agg (scC p h b e cu me), .agg (scC p' h' b' e' cu me)] w fun x w' => x = .returned (.bool true) ∧ Below w.heap.size w w' := by
  have A0 := hide (Hand.twoR w (scC p h b e cu me) (scC p' h' b' e' cu me) 29 29)
  have D := hide (d.below A0.out.below)
  have D' := hide (d'.below A0.out.below)
  have nee : (cu != cu) = false := by simp
  have npp : (me != me) = false := by simp
  clear d d'
  obtain ⟨x0, x1, x2, x3, x4, x5⟩ := (A0.out.atBox 1 rfl).c6
  obtain ⟨y0, y1, y2, y3, y4, y5⟩ := (A0.out.atBox 0 rfl).c6
  go_enter Tryz.func17, Tryz.ntmps17
  go_wp2_with fail
  refine (eqDisk_same _ _ _ _ _ _ P H B _ D.out.rp D.out.rh D.out.rb D'.out.rp D'.out.rh D'.out.rb).mono ?_
  rintro x w1 ⟨rfl, q⟩
  have A1 := hide (A0.out.step q)
  have D1 := hide (D.out.below q)
  have D1' := hide (D'.out.below q)
  clear q A0 D D' x0 x1 x2 x3 x4 x5 y0 y1 y2 y3 y4 y5
  obtain ⟨x0, x1, x2, x3, x4, x5⟩ := (A1.out.atBox 1 rfl).c6
  obtain ⟨y0, y1, y2, y3, y4, y5⟩ := (A1.out.atBox 0 rfl).c6
  go_wp2_with fail
  refine (eqIntS_same _ _ es _ D1.out.re D1'.out.re).mono ?_
  rintro x w2 ⟨rfl, q⟩
  have A2 := hide (A1.out.step q)
  clear q A1 D1 D1' x0 x1 x2 x3 x4 x5 y0 y1 y2 y3 y4 y5
  obtain ⟨x0, x1, x2, x3, x4, x5⟩ := (A2.out.atBox 1 rfl).c6
  obtain ⟨y0, y1, y2, y3, y4, y5⟩ := (A2.out.atBox 0 rfl).c6
  go_wp2
  go_ret
  exact ⟨rfl, A2.out.below⟩

/-- What the marking of a scrub tells. -/
def enSc (P H : List ByteArray) (B : List Bool) (es : List Int) : Nat := 1 + P.length + H.length + B.length + es.length
/-- The lists of a scrub that was marked. -/
abbrev mkS1 (P : List ByteArray) : List ByteArray := marksT 1 P.length
abbrev mkS2 (P H : List ByteArray) : List ByteArray := marksT (1 + P.length) H.length
abbrev mkS3 (P H : List ByteArray) (B : List Bool) : List Bool := marksZ ((1 + P.length + H.length : Nat) : Int) B.length
abbrev mkS4 (P H : List ByteArray) (B : List Bool) (es : List Int) : List Int := marks ((1 + P.length + H.length + B.length : Nat) : Int) es.length
set_option maxRecDepth 100000 in
set_option maxHeartbeats 1600000 in
theorem markScrub_calls (p h b e : Value) (cu me : Int) (P H : List ByteArray) (B : List Bool) (es : List Int) (lo hi : Nat) (w : World) (d : SrbV w lo hi p h b e P H B es) (hh : hi ≤ w.heap.size) (hz : SzD P H B) (za : es.length ≤ 1048576) :
    Calls Tryz.prog 20 #[.agg (scC p h b e cu me), .int .i64 1] w fun x w' => x = .returned (.int .i64 (enSc P H B es : Int)) ∧
      SrbV w' lo hi p h b e (mkS1 P) (mkS2 P H) (mkS3 P H B) (mkS4 P H B es) ∧ Chg lo hi w w' := by
  have b0 := below_box w (.cells (scC p h b e cu me) 29)
  have X0 := hide (BoxAt.new w (scC p h b e cu me) 29)
  have d0 := d.below b0
  obtain ⟨l, u, h1, hd, ho1⟩ := d0.disk
  have OA := hide d0.eps
  have TA := hide d0.te
  have DD := hide hd
  have C0 : Hid (Chg lo hi w (w.alloc (.cells (scC p h b e cu me) 29))) := Chg.ofBelow b0
  have SZ := hide hz
  obtain ⟨n1, e1⟩ : ∃ n, n = 1 + P.length + H.length + B.length := ⟨_, rfl⟩
  obtain ⟨n2, e2⟩ : ∃ n, n = n1 + es.length := ⟨_, rfl⟩
  have EN : enSc P H B es = n2 := by unfold enSc; omega
  unfold mkS4
  rw [EN, ← e1]
  have p1 : 0 < n1 := by omega
  have q1 : n1 ≤ 4000000 := by obtain ⟨z1, z2, z3⟩ := hz; omega
  have q2 : n2 ≤ 6000000 := by omega
  have E1 := hide e1
  have E2 := hide e2
  have l2 : u ≤ (w.alloc (.cells (scC p h b e cu me) 29)).heap.size := by simp; omega
  have hl : lo ≤ l := h1.1
  have hu : u ≤ hi := h1.2
  clear e1 e2 EN d d0 hd b0 h1 hz
  obtain ⟨x0, x1, x2, x3, x4, x5⟩ := X0.out.c6
  go_enter Tryz.func20, Tryz.ntmps20
  go_wp2_with fail
  refine (markDisk_calls p h b P H B 1 l u _ DD.out l2 (by omega) (by omega) SZ.out).mono ?_
  rintro x w1 ⟨rfl, d1, c1⟩
  have D1 := hide d1
  have X1 := hide (X0.out.chg c1 (.inr (by omega)))
  have OA1 := hide (own_outJ OA.out ho1 c1)
  have C1 := hide (C0.out.trans (c1.wider hl hu))
  rw [← E1.out]
  clear d1 c1 DD X0 OA C0 x0 x1 x2 x3 x4 x5
  obtain ⟨x0, x1, x2, x3, x4, x5⟩ := X1.out.c6
  go_wp2_with fail
  refine (markIntS_calls e es n1 lo _ OA1.out (by omega) (by omega) (by omega)).mono ?_
  rintro x w2 ⟨rfl, o2, g2⟩
  have c2 : Chg lo hi w1 w2 := Chg.ofGrown g2 (fun j hj => ⟨row_low OA1.out j hj, TA.out j hj⟩)
  have D2 := hide (dsk_out D1.out ho1 g2)
  have OA2 := hide o2
  have C2 := hide (C1.out.trans c2)
  clear o2 g2 c2 D1 X1 OA1 C1 x0 x1 x2 x3 x4 x5
  have E2i : Hid ((n1 : Int) + (es.length : Int) = (n2 : Int)) := by have := E2.out; show _ = _; omega
  rw [E2i.out]
  go_wp2
  go_ret
  exact ⟨rfl, ⟨⟨l, u, ⟨hl, hu⟩, D2.out, ho1⟩, OA2.out, TA.out⟩, C2.out⟩
set_option maxRecDepth 100000 in
set_option maxHeartbeats 1600000 in
theorem heldScrub_calls (p h b e : Value) (cu me : Int) (P H : List ByteArray) (B : List Bool) (es : List Int) (w : World)
    (d : RdSc w p h b e (mkS1 P) (mkS2 P H) (mkS3 P H B) (mkS4 P H B es))
    (hz : SzD P H B) (za : es.length ≤ 1048576) :
    Calls Tryz.prog 21 #[.agg (scC p h b e cu me), .int .i64 1] w fun x w' => x = .returned (.int .i64 (enSc P H B es : Int)) ∧ Below w.heap.size w w' := by
  have b0 := below_box w (.cells (scC p h b e cu me) 29)
  have A0 := hide ((Hand.start w).box (scC p h b e cu me) 29)
  have D := hide (d.below b0)
  obtain ⟨n1, e1⟩ : ∃ n, n = 1 + P.length + H.length + B.length := ⟨_, rfl⟩
  obtain ⟨n2, e2⟩ : ∃ n, n = n1 + es.length := ⟨_, rfl⟩
  have EN : enSc P H B es = n2 := by unfold enSc; omega
  have ra := D.out.re
  unfold mkS4 at ra
  rw [← e1] at ra
  have RA := hide ra
  have RP := hide D.out.rp
  have RH := hide D.out.rh
  have RB := hide D.out.rb
  rw [EN]
  have p1 : ¬ ((n1 : Int) < 0) := by omega
  have p2 : ¬ ((n2 : Int) < 0) := by omega
  have q1 : n1 ≤ 4000000 := by obtain ⟨z1, z2, z3⟩ := hz; omega
  have q2 : n2 ≤ 6000000 := by omega
  have SZ := hide hz
  have E1 := hide e1
  have E2 := hide e2
  clear e1 e2 EN d D b0 hz ra
  obtain ⟨x0, x1, x2, x3, x4, x5⟩ := (A0.out.atBox 0 rfl).c6
  go_enter Tryz.func21, Tryz.ntmps21
  go_wp2_with fail
  refine (heldDisk_calls p h b P.length H.length B.length 1 _ RP.out RH.out RB.out (by omega) (by omega) SZ.out.1 SZ.out.2.1 SZ.out.2.2).mono ?_
  rintro x w1 ⟨rfl, q⟩
  have A1 := hide (A0.out.step q)
  have RA1 := hide (RA.out.below q)
  rw [← E1.out]
  clear q A0 RA RP RH RB x0 x1 x2 x3 x4 x5
  obtain ⟨x0, x1, x2, x3, x4, x5⟩ := (A1.out.atBox 0 rfl).c6
  go_wp2_with fail
  refine (heldIntS_calls e es.length n1 _ RA1.out (by omega) (by omega) (by omega)).mono ?_
  rintro x w2 ⟨rfl, rfl⟩
  have E2i : Hid ((n1 : Int) + (es.length : Int) = (n2 : Int)) := by have := E2.out; show _ = _; omega
  rw [E2i.out]
  go_wp2
  go_ret
  exact ⟨rfl, A1.out.below⟩

/-- A scrub's lists fit the measure. -/
def SzSc (P H : List ByteArray) (B : List Bool) (es : List Int) : Prop := SzD P H B ∧ es.length ≤ 1048576
set_option maxRecDepth 100000 in
set_option maxHeartbeats 1600000 in
theorem szScrub_calls (p h b e : Value) (cu me : Int) (P H : List ByteArray) (B : List Bool) (es : List Int) (w : World) (d : RdSc w p h b e P H B es) :
    Calls Tryz.prog 22 #[.agg (scC p h b e cu me), .int .i64 1048576] w fun x w' => (∃ r : Int, x = .returned (.int .i64 r) ∧ (r < 0 ∨ (0 ≤ r ∧ r ≤ 1048576 ∧ SzSc P H B es))) ∧ Below w.heap.size w w' := by
  have A0 := hide ((Hand.start w).box (scC p h b e cu me) 39)
  have D0 := hide (d.below A0.out.below)
  clear d
  obtain ⟨x0, x1, x2, x3, x4, x5⟩ := (A0.out.atBox 0 rfl).c6
  go_enter Tryz.func22, Tryz.ntmps22
  go_wp2_with fail
  refine (szDisk_calls p h b P H B _ D0.out.rp D0.out.rh D0.out.rb).mono ?_
  rintro x w1 ⟨⟨r, rfl, hr⟩, q⟩
  have A1 := hide (A0.out.step q)
  have D1 := hide (D0.out.below q)
  clear q A0 D0 x0 x1 x2 x3 x4 x5
  obtain ⟨x0, x1, x2, x3, x4, x5⟩ := (A1.out.atBox 0 rfl).c6
  by_cases r0 : r < 0
  · go_wp2
    go_ret
    exact ⟨⟨-1, rfl, .inl (by decide)⟩, A1.out.below⟩
  have HR := hide (hr.resolve_left r0)
  have r1 := HR.out.2.1
  clear hr
  go_wp2_with fail
  refine (szIntS_any e es _ _ D1.out.re (by omega) (by omega)).mono ?_
  rintro x w2 ⟨⟨r2, rfl, hr⟩, rfl⟩
  clear r0 r1
  by_cases r0 : r2 < 0
  · go_wp2
    go_ret
    exact ⟨⟨-1, rfl, .inl (by decide)⟩, A1.out.below⟩
  have HR2 := hide (hr.resolve_left r0)
  clear hr
  go_wp2
  go_ret
  exact ⟨⟨r2, rfl, .inr ⟨HR2.out.1, HR2.out.2.1, HR.out.2.2, HR2.out.2.2⟩⟩, A1.out.below⟩

set_option maxRecDepth 100000 in
set_option maxHeartbeats 3200000 in
theorem toScrub_calls (p h b e : Value) (cu me : Int) (P H : List ByteArray) (B : List Bool) (es : List Int) (w : World) (d : RdSc w p h b e P H B es) (hz : SzSc P H B es) :
    Calls Tryz.prog 24 #[.agg (scC p h b e cu me)] w fun x w' => ∃ p' h' b' e', x = .returned (.agg (scC p' h' b' e' cu me)) ∧ SrbV w' w.heap.size w'.heap.size p' h' b' e' P H B es ∧ Below w.heap.size w w' := by
  have A0 := hide (Hand.three w (scC p h b e cu me) sc0 sc0 39 29 29)
  have D := hide d
  have D0 := hide (d.below A0.out.below)
  have SZ := hide hz
  clear d hz
  obtain ⟨x0, x1, x2, x3, x4, x5⟩ := (A0.out.atBox 2 rfl).c6
  go_enter Tryz.func24, Tryz.ntmps24
  go_wp2_with fail
  refine (toDisk_calls p h b P H B _ D0.out.rp D0.out.rh D0.out.rb SZ.out.1).mono ?_
  rintro x w1 ⟨p1, h1, b1, rfl, dk, q⟩
  obtain ⟨a1, k1, a2, k2, a3, k3, rfl, rfl, rfl⟩ := dk.sl
  have A1 := hide (A0.out.add q (TDsk.st _ _ _ _ _ _) dk)
  clear q dk A0 D0 x0 x1 x2 x3 x4 x5
  obtain ⟨x0, x1, x2, x3, x4, x5⟩ := (A1.out.atBox 3 rfl).c6
  have xr := A1.out.atBox 1 rfl
  obtain ⟨y0, y1, y2, y3, y4, y5⟩ := xr.c6
  have f0 := xr.frozen 0
  have f1 := xr.frozen 1
  have f2 := xr.frozen 2
  have A2 := hide (A1.out.lay3S 1 rfl (.slice a1 P.length k1) (.slice a2 H.length k2) (.slice a3 B.length k3))
  clear xr A1
  go_wp2_with fail
  clear x0 x1 x2 x3 x4 x5 y0 y1 y2 y3 y4 y5 f0 f1 f2
  refine (toIntS_calls e es _ (D.out.below A2.out.below).re SZ.out.2).mono ?_
  rintro x w2 ⟨a', rfl, o, q⟩
  obtain ⟨a4, k4, rfl⟩ := row_slice o
  have A3 := hide (A2.out.add q (TInts.st _ _) ⟨o, row_top o⟩)
  clear o q A2
  obtain ⟨x0, x1, x2, x3, x4, x5⟩ := (A3.out.atBox 4 rfl).c6
  have xl := A3.out.atBox 2 rfl
  obtain ⟨y0, y1, y2, y3, y4, y5⟩ := xl.c6
  have f3 := xl.frozen 3
  have f4 := xl.frozen 4
  have f5 := xl.frozen 5
  have xr := A3.out.atBox 3 rfl
  obtain ⟨z0, z1, z2, z3, z4, z5⟩ := xr.c6
  have g0 := xr.frozen 0
  have g1 := xr.frozen 1
  have g2 := xr.frozen 2
  have g3 := xr.frozen 3
  have g4 := xr.frozen 4
  have g5 := xr.frozen 5
  have A4 := hide (((A3.out.layE 2 rfl (.slice a4 es.length k4)).layC 2 rfl (.int .i64 cu)).layM 2 rfl (.int .i64 me))
  have A7 := hide (A4.out.store6 3 rfl (.slice a1 P.length k1) (.slice a2 H.length k2) (.slice a3 B.length k3) (.slice a4 es.length k4) (.int .i64 cu) (.int .i64 me))
  clear xl xr A3 A4
  go_wp2
  exact bodyPost_ret (res_sc rfl _ _ (w.heap.size + 1) _ _ _ _ _ _ (0, 0) rfl (A7.out.atBox 3 rfl)) rfl ⟨_, _, _, _, rfl, A7.out.srb, A7.out.below⟩
end Go.Proofs.YtbgadbokejaomaaGreatDoor

namespace Go.Proofs.YtbgadbokejaomaaGreatDoor.Frame
open Go.ChangeShapes Go.WideShapes Go.ChangeAt Go.RowKit
set_option linter.unusedVariables false
section
variable {H : Type} {enc : TypeId × Value → H} {W : World}
theorem trod_struct4S {P : Program} {w : World} {base : Nat} {spare : Nat → Bool} {held : Bool} {t : TypeId} {f0 f1 f2 f3 : Field} {fuel : Nat} {cs : List Value} {x : DataW H × List MemPlace} (ht : P.underlying t = some (.struct #[f0, f1, f2, f3])) (h : DataW.trod enc P w base spare held fuel t cs = some x) :
    ∃ y0 y1 y2 y3 n, cs.length = P.cellsOf t ∧ DataW.trod enc P w base spare held n f0.type ((cs.drop f0.offset).take (P.cellsOf f0.type)) = some y0 ∧
      DataW.trod enc P w base spare held n f1.type ((cs.drop f1.offset).take (P.cellsOf f1.type)) = some y1 ∧ DataW.trod enc P w base spare held n f2.type ((cs.drop f2.offset).take (P.cellsOf f2.type)) = some y2 ∧
      DataW.trod enc P w base spare held n f3.type ((cs.drop f3.offset).take (P.cellsOf f3.type)) = some y3 := by
  obtain ⟨xs, n, _, rfl, hl, hlen, hf⟩ := DataW.trod_struct ht h
  match xs, hlen with
  | [y0, y1, y2, y3], _ => exact ⟨y0, y1, y2, y3, n, hl, by simpa using hf 0 f0 rfl, by simpa using hf 1 f1 rfl, by simpa using hf 2 f2 rfl, by simpa using hf 3 f3 rfl⟩
theorem array6S {α : Type} {cs : Array α} (h : cs.size = 6) : ∃ c0 c1 c2 c3 c4 c5, cs = #[c0, c1, c2, c3, c4, c5] := by
  obtain ⟨l⟩ := cs
  match l, h with
  | [c0, c1, c2, c3, c4, c5], _ => exact ⟨c0, c1, c2, c3, c4, c5, rfl⟩
set_option maxRecDepth 100000 in
theorem dskS_of {n : Nat} {c0 c1 c2 : Value} {y : DataW H × List MemPlace} (h : DataW.trod enc Tryz.prog W 0 (fun _ => true) true n 37 [c0, c1, c2] = some y) :
    ∃ P Hh B, RdT W c0 P ∧ RdT W c1 Hh ∧ RdZ W c2 B := by
  obtain ⟨y0, y1, y2, m, _, hl, g0, g1, g2⟩ := Go.Deep.trod_struct3 Tryz.underlying37 h
  have k1 : Tryz.prog.cellsOf 22 = 1 := by kernel_rfl
  have k2 : Tryz.prog.cellsOf 24 = 1 := by kernel_rfl
  simp only [k1, k2, List.drop_zero, List.drop_succ_cons, List.take_succ_cons, List.take_zero] at g0 g1 g2
  obtain ⟨P, hP⟩ := rdT_of g0
  obtain ⟨Hh, hH⟩ := rdT_of g1
  obtain ⟨B, hB⟩ := rdZ_of g2
  exact ⟨P, Hh, B, hP, hH, hB⟩
set_option maxRecDepth 100000 in
theorem srb_of {r : Reach} {b0 : Nat} {v : Value} {d : DataW H} {p : List MemPlace} (hv : Value.okWide Tryz.prog W r b0 39 v) (h : DataW.Trod enc Tryz.prog W 0 (fun _ => true) true 39 v d p) :
    ∃ (vp vh vb ve : Value) (cu me : Int) (P Hh : List ByteArray) (B : List Bool) (es : List Int), v = .agg (scC vp vh vb ve cu me) ∧ RdSc W vp vh vb ve P Hh B es := by
  obtain ⟨cs, rfl, hsz⟩ := okWide_struct Tryz.underlying39 hv
  obtain ⟨c0, c1, c2, c3, c4, c5, rfl⟩ := array6S (hsz.trans (by kernel_rfl))
  obtain ⟨fuel, hf⟩ := h
  obtain ⟨y0, y1, y2, y3, n, _, g0, g1, g2, g3⟩ := trod_struct4S Tryz.underlying39 hf
  have k1 : Tryz.prog.cellsOf 3 = 1 := by kernel_rfl
  have k2 : Tryz.prog.cellsOf 27 = 1 := by kernel_rfl
  have k3 : Tryz.prog.cellsOf 37 = 3 := by kernel_rfl
  simp only [Value.cells, k1, k2, k3, List.drop_zero, List.drop_succ_cons, List.take_succ_cons, List.take_zero] at g0 g1 g2 g3
  obtain ⟨P, Hh, B, hP, hH, hB⟩ := dskS_of g0
  obtain ⟨es, he⟩ := rd_of g1
  obtain ⟨cu, e1, _⟩ := DataW.trod_int Tryz.underlying3 g2
  obtain ⟨me, e2, _⟩ := DataW.trod_int Tryz.underlying3 g3
  obtain rfl : c4 = .int .i64 cu := by simpa using e1
  obtain rfl : c5 = .int .i64 me := by simpa using e2
  exact ⟨c0, c1, c2, c3, cu, me, P, Hh, B, es, rfl, hP, hH, hB, he⟩
end
end Go.Proofs.YtbgadbokejaomaaGreatDoor.Frame
