/-
  What every law's row of this seat asks beside its walk: a law that returns true and writes nothing that was there meets its row; the program's table holds its seven numbers where the row lists it; one world that fits. No condition.
-/
import Derived.Test.YtbgadbokejaomaaGreatDoorCards
import Derived.Test.YtbgadbokejaomaaGreatDoorTie
import Derived.Test.YtbgadbokejaomaaGreatDoorRewriteAtB0
import Derived.ProofKit
import Derived.OpenShut
import Derived.OpenVars
import Derived.ChangeOld
import Derived.Below
import Derived.Deep.DeepHandedRow
import Derived.Lib.LaidTab
namespace Go.Proofs.YtbgadbokejaomaaGreatDoor.Frame
open Go.ChangeShapes Go.WideShapes Go.ChangeAt Go.RowKit

theorem own : ownKnob Tryz.prog.godebug = none := by kernel_rfl
theorem laidOut : laidOutB Tryz.prog = true := by kernel_rfl
theorem gTab : Tryz.prog.globalNamed "loop.example/g00405/impl.highRests" = some 1 := by kernel_rfl
theorem gTabType : (Tryz.prog.globals[1]?).map (·.type) = some 261 := by kernel_rfl
theorem cellsTab : Tryz.prog.cellsOf 261 = 7 := by kernel_rfl
theorem cellsInt : Tryz.prog.cellsOf 3 = 1 := by kernel_rfl
/-- A word ends at the first blank. -/
theorem ws_word : ∀ (w r : List Char), (w.all fun c => c != Char.ofNat 32) = true → wordsSigns (w ++ Char.ofNat 32 :: r) = w :: wordsSigns r := by
  intro w r
  induction w with
  | nil => intro _; rfl
  | cons c w ih =>
    intro h
    simp only [List.all_cons, Bool.and_eq_true, bne_iff_ne] at h
    rw [List.cons_append, wordsSigns.eq_3 _ _ (fun e => h.1 e), ih h.2]
/-- The head line: its first three words, letter by letter, and the rest (so that what asks for its first words need not run over the whole of it). -/
theorem order0 : Tryz.prog.initOrder = String.ofList (([104, 97, 114, 110, 101, 115, 115] : List Nat).map Char.ofNat ++ Char.ofNat 32 :: (([97, 57, 49, 57, 98, 97, 98, 102, 99, 55, 53, 55, 57, 97, 102, 55, 55, 97, 48, 49, 48, 56, 97, 97, 101, 51, 99, 51, 102, 55, 98, 98, 102, 52, 50, 50, 98, 55, 57, 48, 102, 52, 53, 54, 51, 48, 48, 102, 49, 51, 101, 51, 57, 49, 101, 101, 101, 100, 101, 99, 101, 53, 56, 99] : List Nat).map Char.ofNat ++ Char.ofNat 32 :: (([99, 117, 116] : List Nat).map Char.ofNat ++ Char.ofNat 32 :: ([97, 116, 32, 108, 111, 111, 112, 46, 101, 120, 97, 109, 112, 108, 101, 47, 103, 48, 48, 52, 48, 53, 47, 108, 97, 119, 115, 46, 70, 110, 69, 120, 97, 99, 116, 78, 101, 119, 83, 99, 114, 117, 98, 32, 108, 111, 111, 112, 46, 101, 120, 97, 109, 112, 108, 101, 47, 103, 48, 48, 52, 48, 53, 47, 108, 97, 119, 115, 46, 70, 110, 69, 120, 97, 99, 116, 83, 99, 114, 117, 98, 78, 101, 120, 116, 32, 108, 111, 111, 112, 46, 101, 120, 97, 109, 112, 108, 101, 47, 103, 48, 48, 52, 48, 53, 47, 108, 97, 119, 115, 46, 70, 110, 69, 120, 97, 99, 116, 83, 99, 114, 117, 98, 65, 108, 108, 32, 108, 111, 111, 112, 46, 101, 120, 97, 109, 112, 108, 101, 47, 103, 48, 48, 52, 48, 53, 47, 108, 97, 119, 115, 46, 70, 110, 69, 120, 97, 99, 116, 68, 97, 109, 97, 103, 101, 79, 102, 32, 108, 111, 111, 112, 46, 101, 120, 97, 109, 112, 108, 101, 47, 103, 48, 48, 52, 48, 53, 47, 108, 97, 119, 115, 46, 70, 110, 69, 120, 97, 99, 116, 84, 101, 120, 116, 65, 116, 32, 108, 111, 111, 112, 46, 101, 120, 97, 109, 112, 108, 101, 47, 103, 48, 48, 52, 48, 53, 47, 108, 97, 119, 115, 46, 70, 110, 69, 120, 97, 99, 116, 82, 101, 119, 114, 105, 116, 101, 65, 116, 32, 108, 111, 111, 112, 46, 101, 120, 97, 109, 112, 108, 101, 47, 103, 48, 48, 52, 48, 53, 47, 108, 97, 119, 115, 46, 70, 110, 83, 99, 114, 117, 98, 115, 32, 108, 111, 111, 112, 46, 101, 120, 97, 109, 112, 108, 101, 47, 103, 48, 48, 52, 48, 53, 47, 108, 97, 119, 115, 46, 70, 110, 69, 120, 97, 99, 116, 87, 114, 105, 116, 101, 83, 116, 114, 105, 112, 101, 32, 108, 111, 111, 112, 46, 101, 120, 97, 109, 112, 108, 101, 47, 103, 48, 48, 52, 48, 53, 47, 108, 97, 119, 115, 46, 70, 110, 69, 120, 97, 99, 116, 82, 101, 97, 100, 83, 116, 114, 105, 112, 101, 32, 108, 111, 111, 112, 46, 101, 120, 97, 109, 112, 108, 101, 47, 103, 48, 48, 52, 48, 53, 47, 108, 97, 119, 115, 46, 70, 110, 69, 120, 97, 99, 116, 77, 101, 110, 100, 83, 116, 114, 105, 112, 101] : List Nat).map Char.ofNat))) := by kernel_rfl
set_option maxRecDepth 100000 in
theorem order : Tryz.prog.initOrder.toList = (([104, 97, 114, 110, 101, 115, 115] : List Nat).map Char.ofNat ++ Char.ofNat 32 :: (([97, 57, 49, 57, 98, 97, 98, 102, 99, 55, 53, 55, 57, 97, 102, 55, 55, 97, 48, 49, 48, 56, 97, 97, 101, 51, 99, 51, 102, 55, 98, 98, 102, 52, 50, 50, 98, 55, 57, 48, 102, 52, 53, 54, 51, 48, 48, 102, 49, 51, 101, 51, 57, 49, 101, 101, 101, 100, 101, 99, 101, 53, 56, 99] : List Nat).map Char.ofNat ++ Char.ofNat 32 :: (([99, 117, 116] : List Nat).map Char.ofNat ++ Char.ofNat 32 :: ([97, 116, 32, 108, 111, 111, 112, 46, 101, 120, 97, 109, 112, 108, 101, 47, 103, 48, 48, 52, 48, 53, 47, 108, 97, 119, 115, 46, 70, 110, 69, 120, 97, 99, 116, 78, 101, 119, 83, 99, 114, 117, 98, 32, 108, 111, 111, 112, 46, 101, 120, 97, 109, 112, 108, 101, 47, 103, 48, 48, 52, 48, 53, 47, 108, 97, 119, 115, 46, 70, 110, 69, 120, 97, 99, 116, 83, 99, 114, 117, 98, 78, 101, 120, 116, 32, 108, 111, 111, 112, 46, 101, 120, 97, 109, 112, 108, 101, 47, 103, 48, 48, 52, 48, 53, 47, 108, 97, 119, 115, 46, 70, 110, 69, 120, 97, 99, 116, 83, 99, 114, 117, 98, 65, 108, 108, 32, 108, 111, 111, 112, 46, 101, 120, 97, 109, 112, 108, 101, 47, 103, 48, 48, 52, 48, 53, 47, 108, 97, 119, 115, 46, 70, 110, 69, 120, 97, 99, 116, 68, 97, 109, 97, 103, 101, 79, 102, 32, 108, 111, 111, 112, 46, 101, 120, 97, 109, 112, 108, 101, 47, 103, 48, 48, 52, 48, 53, 47, 108, 97, 119, 115, 46, 70, 110, 69, 120, 97, 99, 116, 84, 101, 120, 116, 65, 116, 32, 108, 111, 111, 112, 46, 101, 120, 97, 109, 112, 108, 101, 47, 103, 48, 48, 52, 48, 53, 47, 108, 97, 119, 115, 46, 70, 110, 69, 120, 97, 99, 116, 82, 101, 119, 114, 105, 116, 101, 65, 116, 32, 108, 111, 111, 112, 46, 101, 120, 97, 109, 112, 108, 101, 47, 103, 48, 48, 52, 48, 53, 47, 108, 97, 119, 115, 46, 70, 110, 83, 99, 114, 117, 98, 115, 32, 108, 111, 111, 112, 46, 101, 120, 97, 109, 112, 108, 101, 47, 103, 48, 48, 52, 48, 53, 47, 108, 97, 119, 115, 46, 70, 110, 69, 120, 97, 99, 116, 87, 114, 105, 116, 101, 83, 116, 114, 105, 112, 101, 32, 108, 111, 111, 112, 46, 101, 120, 97, 109, 112, 108, 101, 47, 103, 48, 48, 52, 48, 53, 47, 108, 97, 119, 115, 46, 70, 110, 69, 120, 97, 99, 116, 82, 101, 97, 100, 83, 116, 114, 105, 112, 101, 32, 108, 111, 111, 112, 46, 101, 120, 97, 109, 112, 108, 101, 47, 103, 48, 48, 52, 48, 53, 47, 108, 97, 119, 115, 46, 70, 110, 69, 120, 97, 99, 116, 77, 101, 110, 100, 83, 116, 114, 105, 112, 101] : List Nat).map Char.ofNat))) := (congrArg String.toList order0).trans String.toList_ofList
theorem words : ∃ X, wordsSigns Tryz.prog.initOrder.toList = ([104, 97, 114, 110, 101, 115, 115] : List Nat).map Char.ofNat :: ([97, 57, 49, 57, 98, 97, 98, 102, 99, 55, 53, 55, 57, 97, 102, 55, 55, 97, 48, 49, 48, 56, 97, 97, 101, 51, 99, 51, 102, 55, 98, 98, 102, 52, 50, 50, 98, 55, 57, 48, 102, 52, 53, 54, 51, 48, 48, 102, 49, 51, 101, 51, 57, 49, 101, 101, 101, 100, 101, 99, 101, 53, 56, 99] : List Nat).map Char.ofNat :: ([99, 117, 116] : List Nat).map Char.ofNat :: X := by
  rw [order, ws_word _ _ (by kernel_rfl), ws_word _ _ (by kernel_rfl), ws_word _ _ (by kernel_rfl)]
  exact ⟨_, rfl⟩
theorem mayEnter_of (P : Program) (c : List Char) (rest : List (List Char)) (h : behindMainWord (wordsSigns P.initOrder.toList) = c :: rest) (h1 : stripLifts liftWords (c :: rest) = ([], c :: rest)) (h2 : c = "cut".toList)
    (h3 : P.laysLater = false) (h4 : P.bearsReflect = false) (h5 : P.doorFits [] = true) : P.mayEnter = true := by
  unfold Program.mayEnter
  rw [h]
  simp only []
  rw [h1, h3, h4, h5, h2]
  simp
theorem make_of (P : Program) (c : List Char) (rest : List (List Char)) (h : behindMainWord (wordsSigns P.initOrder.toList) = c :: rest) (h2 : (c == "gc".toList || c == "spec".toList) = false) (h3 : (c == "cut".toList) = true) : P.make = some .cut := by
  unfold Program.make
  rw [h]
  simp only []
  rw [h2, h3]
  simp
theorem lifts_of (P : Program) (c : List Char) (rest : List (List Char)) (h : behindMainWord (wordsSigns P.initOrder.toList) = c :: rest) (h1 : stripLifts liftWords (c :: rest) = ([], c :: rest)) (h2 : (some c == some "carried".toList) = false) : P.liftsFinal = false := by
  unfold Program.liftsFinal Program.headLifts
  rw [h, h1]
  simp only [List.head?_cons]
  rw [h2]
  simp
theorem mainIs_of (P : Program) (h s : List Char) (rest : List (List Char)) (e : wordsSigns P.initOrder.toList = h :: s :: rest) (h1 : isSumSigns s = true) (h2 : (h == "harness".toList) = true) : P.mainIs = some (true, s) := by
  unfold Program.mainIs
  rw [e]
  simp only []
  rw [h1, h2]
  simp
theorem behind : ∃ X, behindMainWord (wordsSigns Tryz.prog.initOrder.toList) = ([99, 117, 116] : List Nat).map Char.ofNat :: X := by
  obtain ⟨X, h⟩ := words
  exact ⟨X, (congrArg behindMainWord h).trans (by kernel_rfl)⟩
theorem mayEnter : Tryz.prog.mayEnter = true := by
  obtain ⟨X, h⟩ := behind
  exact mayEnter_of _ _ X h (by kernel_rfl) (by kernel_rfl) (by kernel_rfl) (by kernel_rfl) (by kernel_rfl)
theorem make : Tryz.prog.make = some .cut := by
  obtain ⟨X, h⟩ := behind
  exact make_of _ _ X h (by kernel_rfl) (by kernel_rfl)
theorem lifts : Tryz.prog.liftsFinal = false := by
  obtain ⟨X, h⟩ := behind
  exact lifts_of _ _ X h (by kernel_rfl) (by kernel_rfl)
theorem mainIs : Tryz.prog.mainIs = some (true, "a919babfc7579af77a0108aae3c3f7bbf422b790f456300f13e391eeedece58c".toList) := by
  obtain ⟨X, h⟩ := words
  rw [mainIs_of _ _ _ _ h (by kernel_rfl) (by kernel_rfl)]
  exact congrArg (fun l => some (true, l)) (by kernel_rfl)
theorem varsOk : varsRowed Tryz.prog ["loop.example/g00405/impl.highRests"] = true := by kernel_rfl

/-- What a row's list gives: the table's cells hold its seven numbers. -/
theorem table {W : World} (h : laidMetH Tryz.prog [("loop.example/g00405/impl.highRests", Rows.laid_loop_example_g00405_impl_highRests)] W) : Gf.Tab W := by
  have h1 : Lib.TabIs Tryz.prog W "loop.example/g00405/impl.highRests" .i64 [29, 58, 116, 232, 205, 135, 19] :=
    Lib.tabIs_of_head (rest := []) gTab gTabType Tryz.underlying261 Tryz.underlying3 cellsInt cellsTab h
  intro k hk
  rw [h1.cell gTab k (by simpa using hk)]
  match k, hk with
  | 0, _ => rfl
  | 1, _ => rfl
  | 2, _ => rfl
  | 3, _ => rfl
  | 4, _ => rfl
  | 5, _ => rfl
  | 6, _ => rfl

theorem trodAll_below {H : Type} {enc : TypeId × Value → H} {W W' : World} (hb : Below W.heap.size W W') :
    ∀ {ts : List TypeId} {vs : List Value} {ds : List (DataW H)} {ps : List MemPlace}, (ts.all fun t => Tryz.prog.readableRec t && decide (t < Tryz.prog.types.size)) = true →
      DataW.TrodAll enc Tryz.prog W 0 (fun _ => true) true ts vs ds ps → (∀ x ∈ ps, x.block < W.heap.size) → DataW.TrodAll enc Tryz.prog W' 0 (fun b => decide (b < W.heap.size)) true ts vs ds ps := by
  intro ts
  induction ts with
  | nil =>
    intro vs ds ps _ h _
    obtain ⟨rfl, rfl, rfl⟩ := trodAll_nil h
    exact trodAll_mk0
  | cons t ts ih =>
    intro vs ds ps hr h hlt
    obtain ⟨v, vs', d, ds', p, q, rfl, rfl, rfl, h1, h2⟩ := trodAll_cons h
    simp only [List.all_cons, Bool.and_eq_true, decide_eq_true_eq] at hr
    exact trodAll_cons_mk (Below.trod laidOut hr.1.1 hr.1.2 h1 hb (fun x hx => hlt x (by simp [hx]))) (ih hr.2 h2 (fun x hx => hlt x (by simp [hx])))

/-- A law that returns true and writes nothing that was there meets its row's end. -/
theorem law_post {H : Type} {enc : TypeId × Value → H} {f : Func} {s : ChangeSpec} {W W' : World} {args : Array Value} {ds gs : List (DataW H)} {before : List MemPlace}
    (hp : (f.params.toList.all fun t => Tryz.prog.readableRec t && decide (t < Tryz.prog.types.size)) = true) (hv : varsRowed Tryz.prog s.vars = true) (hr : f.resultTypes = #[4])
    (hs : s.fn H (ds ++ gs) = { results := [.lit (.bool true)], args := ds, vars := gs })
    (hW : DataW.Whole enc Tryz.prog f.params.toList s.vars false W args.toList ds gs before) (hb : Below W.heap.size W W') :
    s.post enc Tryz.prog f false true false false W args (.bool true) W' := by
  have hlt := hW.lt
  have hW' := hW
  obtain ⟨p, q, hA, hV, rfl, _, _⟩ := hW
  refine ⟨ds, gs, p ++ q, [], p, q, hW', ?_, ?_, ?_, hb.frame _, fun h => by cases h⟩
  · rw [hs, hr]
    exact trodAll_mk1 (shut_bool Tryz.underlying4 _)
  · rw [hs]
    exact trodAll_below hb hp hA (fun x hx => hlt x (by simp [hx]))
  · rw [hs]
    exact Below.trodVars laidOut hb hv hV

/-- A world for the witness: the table holding what the text lays. -/
def laidW (W : World) : World :=
  { W with heap := W.heap.modify 1 fun
      | .cells _ t frozen => .cells #[.int .i64 29, .int .i64 58, .int .i64 116, .int .i64 232, .int .i64 205, .int .i64 135, .int .i64 19] t frozen
      | o => o }

end Go.Proofs.YtbgadbokejaomaaGreatDoor.Frame
