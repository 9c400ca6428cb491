/-
  Whether a room can be taken, and what is then left: of the program. Each contract says what it asks.
-/
import Derived.Test.YtjffjoednmlkiaaRna
namespace Go.Proofs.Ytjffjoednmlkiaa
open Go.RowKit Go.Maps Go.MapKept Go.ChangeMaps
set_option linter.unusedVariables false

theorem res_rm3 {fn : Func} {x u v : Tmp} (hf : fn.results = #[.cell x 29, .tmp u, .tmp v]) (tmps : Array Value) (w : World) (g : Nat) (a b : Value) (fr : Nat × Nat) (hp : tmps.getD x undef = .pointer (some ⟨g, 0, none⟩))
    (hg : w.heap[g]? = some (.cells #[a, b] 29 fr)) : (results fn tmps).run Try.prog w = .ok (.tuple #[.agg #[a, b], tmps.getD u undef, tmps.getD v undef]) w := by
  have hp' : tmps[x]?.getD undef = .pointer (some ⟨g, 0, none⟩) := by simpa using hp
  simp [results, hf, hp', asAddr, run_loadVar_row w g _ _ _ fr _ hg Try.underlying29 rfl rmInfo]
theorem res_rm2 {fn : Func} {x u : Tmp} (hf : fn.results = #[.cell x 29, .tmp u]) (tmps : Array Value) (w : World) (g : Nat) (a b : Value) (fr : Nat × Nat) (hp : tmps.getD x undef = .pointer (some ⟨g, 0, none⟩))
    (hg : w.heap[g]? = some (.cells #[a, b] 29 fr)) : (results fn tmps).run Try.prog w = .ok (.tuple #[.agg #[a, b], tmps.getD u undef]) w := by
  have hp' : tmps[x]?.getD undef = .pointer (some ⟨g, 0, none⟩) := by simpa using hp
  simp [results, hf, hp', asAddr, run_loadVar_row w g _ _ _ fr _ hg Try.underlying29 rfl rmInfo]
/-- What a taking tells: rows, held rooms, the place, whether there is one. -/
def TakeP (m : List (List Int)) (hs : List Hl) (s : Int) (X : List (List Int)) (Y : List Hl) (at_ : Int) (ok : Bool) : Prop :=
  (¬ (RoomsOk m hs ∧ orP s) ∧ X = [] ∧ Y = [] ∧ at_ = 0 ∧ ok = false) ∨
  ((RoomsOk m hs ∧ orP s ∧ (∀ o, ordN s ≤ o → o < 6 → m.getD o [] = [])) ∧ X = [] ∧ Y = [] ∧ at_ = 0 ∧ ok = false) ∨
  ∃ (o a : Nat) (r : List Int), (RoomsOk m hs ∧ orP s ∧ ordN s ≤ o ∧ o < 6 ∧ (∀ o', ordN s ≤ o' → o' < o → m.getD o' [] = []) ∧ m.getD o [] = (a : Int) :: r) ∧
    X = plR a (ordN s) (o - ordN s) (m.set o r) ∧ Y = putH (a : Int) (ordN s : Int) hs ∧ at_ = (a : Int) ∧ ok = true
theorem takeP_ex (m : List (List Int)) (hs : List Hl) (s : Int) : ∃ X Y a ok, TakeP m hs s X Y a ok := by
  by_cases h : RoomsOk m hs ∧ orP s
  · rcases h.1.all.first h.1.vals (ordN s) (ordN_le s) with ⟨_, h2⟩ | ⟨o, a, r, _, h1, h2, h3, h4⟩
    · exact ⟨_, _, _, _, .inr (.inl ⟨⟨h.1, h.2, h2⟩, rfl, rfl, rfl, rfl⟩)⟩
    · exact ⟨_, _, _, _, .inr (.inr ⟨o, a, r, ⟨h.1, h.2, h1, h2, h3, h4⟩, rfl, rfl, rfl, rfl⟩)⟩
  · exact ⟨_, _, _, _, .inl ⟨h, rfl, rfl, rfl, rfl⟩⟩
theorem take_is {m : List (List Int)} {hs : List Hl} {s : Int} {o a : Nat} {r : List Int} (h : RoomsOk m hs) (h1 : ordN s ≤ o) (h2 : o < 6) (h4 : m.getD o [] = (a : Int) :: r) :
    (freeG m).getD a none = some (o : Int) ∧ a + 2 ^ o ≤ 32 ∧
    AllRows ((hlG a (ordN s) (o - ordN s) (freeG m)).set a none) (plR a (ordN s) (o - ordN s) (m.set o r)) ∧
    IsHeld ((heldM hs).set a (some (ordN s : Int))) (putH (a : Int) (ordN s : Int) hs) := by
  have hk := ((h.all.row o h2).mem (a : Int)).1 (by rw [h4]; simp)
  have hm := h.rmFree (h.freeMem hk)
  obtain ⟨an, on, e1, e2, e3, e4, e5, e6⟩ := rm_fit hm
  have ea : an = a := by omega
  have eo : on = o := by omega
  rw [ea, eo] at e4
  have es : ordN s + (o - ordN s) = o := by omega
  refine ⟨by rw [← lkM_nat]; exact hk, e4, ?_, h.heldIs.put a (by omega) _⟩
  rw [hlG_pl]
  refine plR_all a (ordN s) _ _ _ (h.all.pop a o r h2 h4) (by omega) (by rw [es]; exact e4) (fun q q1 q2 => ?_)
  rw [es] at q2
  rw [getD_set _ _ _ _ _ (by rw [h.all.len]; omega), if_neg (by omega)]
  exact h.inside hk q q1 q2
theorem takeP_small {m : List (List Int)} {hs : List Hl} {s : Int} {X : List (List Int)} {Y : List Hl} {a : Int} {ok : Bool} (h : TakeP m hs s X Y a ok) : X.length + tot X ≤ 1048576 ∧ Y.length ≤ 1048576 := by
  rcases h with ⟨_, rfl, rfl, _, _⟩ | ⟨_, rfl, rfl, _, _⟩ | ⟨o, a', r, ⟨h0, _, h1, h2, _, h4⟩, rfl, rfl, _, _⟩
  · exact ⟨by decide, by decide⟩
  · exact ⟨by decide, by decide⟩
  · have := take_is (s := s) h0 h1 h2 h4
    exact ⟨this.2.2.1.tot, by have := this.2.2.2.short; omega⟩
end Go.Proofs.Ytjffjoednmlkiaa
