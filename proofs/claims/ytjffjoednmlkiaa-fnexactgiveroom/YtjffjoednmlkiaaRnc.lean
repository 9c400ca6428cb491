/-
  A room is taken, of the program. Each contract says what it asks.
-/
import Derived.Test.YtjffjoednmlkiaaRnb
namespace Go.Proofs.Ytjffjoednmlkiaa
open Go.RowKit Go.Maps Go.MapKept Go.ChangeMaps
set_option linter.unusedVariables false

/-- All that the map tells is an order. -/
def Vals (G : Om) : Prop := ∀ p x, G.getD p none = some x → 0 ≤ x ∧ x ≤ 5
theorem Vals.set {G : Om} (h : Vals G) (q : Nat) (v : Option Int) (hv : ∀ x, v = some x → 0 ≤ x ∧ x ≤ 5) : Vals (G.set q v) := by
  intro p x hx
  by_cases hq : q < G.length
  · rw [getD_set _ _ _ _ _ hq] at hx
    split at hx
    · exact hv x hx
    · exact h p x hx
  · rw [List.set_eq_of_length_le (by omega)] at hx
    exact h p x hx
theorem Vals.hl (a want : Nat) : ∀ (j : Nat) {G : Om}, Vals G → want + j ≤ 5 → Vals (hlG a want j G)
  | 0, G, h, _ => h
  | j + 1, G, h, h5 => Vals.hl a want j ((h.set a _ (fun x hx => by simp only [Option.some.injEq] at hx; omega)).set _ _ (fun x hx => by simp only [Option.some.injEq] at hx; omega)) (by omega)
set_option maxRecDepth 100000 in
set_option maxHeartbeats 3200000 in
theorem takeRoom_calls (f h : Value) (m : List (List Int)) (hs : List Hl) (s : Int) (X : List (List Int)) (Y : List Hl) (at_ : Int) (ok : Bool) (w : World) (hf : RdM w f m) (hh : RdH w h hs) (hz : m.length + tot m ≤ 1048576) (hz2 : hs.length ≤ 1048576) (hX : TakeP m hs s X Y at_ ok) :
    Calls Try.prog 123 #[.agg #[f, h], .int .i64 s] w fun e w' => ∃ f' h', e = .returned (.tuple #[.agg #[f', h'], .int .i64 at_, .bool ok]) ∧ RomV w' w.heap.size w'.heap.size f' h' X Y ∧ Below w.heap.size w w' := by
  have RF := hide hf
  have RH := hide hh
  obtain ⟨good, hgood⟩ := bol_exR (RoomsOk m hs)
  have GR := hide (fun V p q h1 h2 => goodRooms_calls p q m hs good V h1 h2 (by omega) hz2 hgood)
  have A0 := hide (Hand.twoN w #[f, h] nilR 29 29)
  have HG := hide hgood
  obtain ⟨e0, e1⟩ := (A0.out.atBox 0 rfl).c2
  have q0 := (A0.out.atBox 0 rfl).frozen 0
  have q1 := (A0.out.atBox 0 rfl).frozen 1
  clear hf hh hz hz2 hgood
  by_cases hor : orP s
  case neg =>
    have E := hide (orB_no hor)
    obtain ⟨rfl, rfl, rfl, rfl⟩ : X = [] ∧ Y = [] ∧ at_ = 0 ∧ ok = false := by
      rcases hX with ⟨_, ee⟩ | ⟨⟨_, h2, _⟩, _⟩ | ⟨_, _, _, ⟨_, h2, _⟩, _⟩
      · exact ee
      · exact absurd h2 hor
      · exact absurd h2 hor
    have C := hide (orderFor_calls s)
    rw [E.out.1, E.out.2] at C
    clear hor hX GR RF RH HG
    go_enter Try.func123, Try.ntmps123
    go_wp2_with (go_at_call 154; refine (C.out _).mono ?_; rintro e w' ⟨rfl, rfl⟩)
    exact bodyPost_ret (res_rm3 rfl _ _ (w.heap.size + 1) _ _ (0, 0) rfl (A0.out.atBox 0 rfl)) rfl ⟨_, _, rfl, RomV.nil _ _ _, A0.out.below⟩
  have E := hide (orB_yes hor)
  have C := hide (orderFor_calls s)
  rw [E.out.1, E.out.2] at C
  have OL := ordN_le s
  obtain ⟨N, hN⟩ : ∃ N, N = ordN s := ⟨_, rfl⟩
  have HN := hide hN
  rw [← hN] at C OL
  have HX := hide hX
  have OR := hide hor
  clear hor hX hN E
  go_enter Try.func123, Try.ntmps123
  go_wp2_with fail
  refine (C.out _).mono ?_
  rintro e w0 ⟨rfl, rfl⟩
  obtain ⟨x0, x1⟩ := (A0.out.atBox 1 rfl).c2
  go_wp2_with fail
  refine (GR.out _ _ _ (RF.out.below A0.out.below) (RH.out.below A0.out.below)).mono ?_
  rintro e w1 ⟨rfl, b1⟩
  have A1 := hide (A0.out.step b1)
  clear b1 A0 GR x0 x1 e0 e1 q0 q1 C
  obtain ⟨e0, e1⟩ := (A1.out.atBox 0 rfl).c2
  have q0 := (A1.out.atBox 0 rfl).frozen 0
  have q1 := (A1.out.atBox 0 rfl).frozen 1
  obtain ⟨x0, x1⟩ := (A1.out.atBox 1 rfl).c2
  cases good with
  | false =>
    have N2 := hide (A1.out.store2 0 rfl (.slice none 0 0) (.slice none 0 0))
    obtain ⟨rfl, rfl, rfl, rfl⟩ : X = [] ∧ Y = [] ∧ at_ = 0 ∧ ok = false := by
      have hn : ¬ RoomsOk m hs := fun hh => by have := HG.out.2 hh; cases this
      rcases HX.out with ⟨_, ee⟩ | ⟨⟨h2, _⟩, _⟩ | ⟨_, _, _, ⟨h2, _⟩, _⟩
      · exact ee
      · exact absurd h2 hn
      · exact absurd h2 hn
    clear HX HG
    go_wp2
    exact bodyPost_ret (res_rm3 rfl _ _ (w.heap.size + 1) _ _ (0, 0) rfl (N2.out.atBox 0 rfl)) rfl ⟨_, _, rfl, RomV.nil _ _ _, N2.out.below⟩
  | true =>
  have OK := hide (HG.out.1 rfl)
  clear HG
  go_wp2_with fail
  refine (ordersIn_calls _ _ m hs _ (RF.out.below A1.out.below) (RH.out.below A1.out.below) OK.out.inR).mono ?_
  rintro e w2 ⟨b, c, rfl, hbc, hb0, mb, mc, b2⟩
  have A2 := hide (A1.out.step b2)
  have BX := (A1.out.atBox 0 rfl).lt
  have gb : w.heap.size + 1 < b := by omega
  have MB := hide mb
  have MC := hide mc
  clear mb mc b2 A1 e0 e1 q0 q1 x0 x1 BX hb0
  go_wp2_with fail
  refine (firstOf_calls b (freeG m) (N : Int) _ MB.out).mono ?_
  rintro e w3 ⟨rfl, b3⟩
  have A3 := hide (A2.out.step b3)
  have MB3 := hide (MB.out.below b3)
  have MC3 := hide (MC.out.below b3)
  clear b3 A2 MB MC
  obtain ⟨e0, e1⟩ := (A3.out.atBox 0 rfl).c2
  have q0 := (A3.out.atBox 0 rfl).frozen 0
  have q1 := (A3.out.atBox 0 rfl).frozen 1
  have FS := OK.out.all.first OK.out.vals N OL
  rcases FS with ⟨f1, f2⟩ | ⟨o, a, r, f1, f2, f3, f4, f5⟩
  · rw [f1]
    obtain ⟨rfl, rfl, rfl, rfl⟩ : X = [] ∧ Y = [] ∧ at_ = 0 ∧ ok = false := by
      rcases HX.out with ⟨hn, _⟩ | ⟨_, ee⟩ | ⟨o, a, r, ⟨_, _, g1, g2, _, g4⟩, _⟩
      · exact absurd ⟨OK.out, OR.out⟩ hn
      · exact ee
      · have := f2 o (by rw [HN.out]; exact g1) g2
        rw [g4] at this
        cases this
    have N2 := hide (A3.out.store2 0 rfl (.slice none 0 0) (.slice none 0 0))
    have hd : decide ((6 : Int) < 6) = false := by decide
    rw [hd]
    clear HX f1 f2 hd
    go_wp2
    exact bodyPost_ret (res_rm3 rfl _ _ (w.heap.size + 1) _ _ (0, 0) rfl (N2.out.atBox 0 rfl)) rfl ⟨_, _, rfl, RomV.nil _ _ _, N2.out.below⟩
  · rw [HN.out] at f2 f4
    obtain ⟨T1, T2, T3, T4⟩ := take_is (s := s) OK.out f2 f3 f5
    obtain ⟨rfl, rfl, rfl, rfl⟩ : X = plR a (ordN s) (o - ordN s) (m.set o r) ∧ Y = putH (a : Int) (ordN s : Int) hs ∧ at_ = (a : Int) ∧ ok = true := by
      rcases HX.out with ⟨hn, _⟩ | ⟨⟨_, _, h3⟩, _⟩ | ⟨o', a', r', ⟨_, _, g1, g2, g3, g4⟩, ee⟩
      · exact absurd ⟨OK.out, OR.out⟩ hn
      · have := h3 o f2 f3
        rw [f5] at this
        cases this
      · have e : o' = o := by
          by_cases l1 : o' < o
          · have := f4 o' g1 l1
            rw [g4] at this; cases this
          · by_cases l2 : o < o'
            · have := g3 o f2 l2
              rw [f5] at this; cases this
            · omega
        subst e
        rw [f5] at g4
        simp only [List.cons.injEq] at g4
        obtain ⟨g5, rfl⟩ := g4
        have : a = a' := by omega
        subst this
        exact ee
    rw [f1]
    have ed : decide ((((a : Int), (o : Int)) : Int × Int).2 < 6) = true := decide_eq_true (by simp only; omega)
    rw [ed]
    simp only
    have a31 : a < 32 := by have := Nat.one_le_two_pow (n := o); omega
    obtain ⟨F1, hF1⟩ : ∃ F, F = hlG a (ordN s) (o - ordN s) (freeG m) := ⟨_, rfl⟩
    have VF : Hid (Vals (F1.set a none)) := by rw [hF1]; exact (Vals.hl a _ _ OK.out.vals (by omega)).set a none (fun x hx => by cases hx)
    have HT := hide (fun V hV => halveTo_calls b (freeG m) a (ordN s) (o - ordN s) V hV (by rw [T1]; congr 1; omega) (by rw [show ordN s + (o - ordN s) = o by omega]; exact T2) (by omega))
    rw [← hF1, ← HN.out] at HT
    rw [← hF1] at T3
    have T3E := hide T3.is
    have T4E := hide T4.is
    clear T1 T2 T3 T4 f1 f2 f3 f4 f5 HX OK hF1 ed
    go_wp2_with fail
    refine (HT.out _ MB3.out).mono ?_
    rintro e w4 ⟨rfl, mb4, g4⟩
    have X4 := (A3.out.atBox 0 rfl).chg g4 (.inl gb)
    have mc4 := MC3.out.chg g4 (.inr (by omega))
    have B4 := A3.out.below.trans (g4.below (B := w.heap.size) (by omega) A3.out.below.size)
    obtain ⟨w5, run5, mb5, g5, s5⟩ := mb4.del a a31 0
    have X5 := X4.kept g5 (by simp; omega)
    have mc5 := mc4.kept g5 (by simp; omega)
    have B5 := B4.grown g5 B4.size (fun k hk => by cases hk; omega)
    obtain ⟨w6, run6, mc6, g6, s6⟩ := mc5.put a a31 (N : Int) (wfI_small (by omega) (by omega))
    have X6 := hide (X5.kept g6 (by simp; omega))
    have mb6 := mb5.kept g6 (by simp; omega)
    have B6 := hide (B5.grown g6 B5.size (fun k hk => by cases hk; omega))
    have RQ := hide (roomsFrom_calls b c _ _ w6 mb6 mc6 VF.out)
    have T4F : Hid (heldK ((heldM hs).set a (some (N : Int))) (keysG ((heldM hs).set a (some (N : Int)))) = putH (a : Int) (ordN s : Int) hs) := by rw [HN.out]; exact T4E.out
    have BL : Hid (b < w6.heap.size) := mb6.lt
    clear X4 mc4 B4 X5 mc5 B5 mb4 g4 mb5 g5 s5 mc6 g6 s6 mb6 HT MB3 MC3 A3 e0 e1 q0 q1 VF T4E
    go_wp2_with fail
    refine RQ.out.mono ?_
    rintro e w7 ⟨f', h', rfl, d7, b7⟩
    have X7 := X6.out.below b7
    obtain ⟨af, cf, ah, ch, rfl, rfl⟩ := d7.sl
    obtain ⟨n1, hn1⟩ : ∃ n, n = (rowsK (F1.set a none) (keysG (F1.set a none))).length := ⟨_, rfl⟩
    obtain ⟨n2, hn2⟩ : ∃ n, n = (heldK ((heldM hs).set a (some (N : Int))) (keysG ((heldM hs).set a (some (N : Int))))).length := ⟨_, rfl⟩
    rw [← hn1, ← hn2] at d7 ⊢
    rw [T3E.out, T4F.out] at d7
    have e0 := X7.c2.1
    have e1 := X7.c2.2
    have q0 := X7.frozen 0
    have q1 := X7.frozen 1
    have g8 := grown_tr (grown_setCell w7 (w.heap.size + 1) 0 (.slice af n1 cf)) (grown_setCell _ (w.heap.size + 1) 1 (.slice ah n2 ch))
    have Z8 := hide ((X7.set 0 (.slice af n1 cf)).set 1 (.slice ah n2 ch))
    have B7 := B6.out.trans (b7.mono B6.out.size)
    have D8 := hide ((d7.wider (lo' := w.heap.size + 2) (by have := BL.out; omega) (Nat.le_refl _)).chg (Chg.ofGrown (lo := w.heap.size + 1) (hi := w.heap.size + 2) g8 (fun k hk => by cases hk; omega)) (.inr (Nat.le_refl _)))
    have G8 := hide (B7.grown g8 B7.size (fun j hj => by cases hj; omega))
    have S8 := hide g8.size
    clear X7 B7 g8 d7 b7 run5 run6 hn1 hn2 X6 B6 RQ T3E T4F
    go_wp2
    exact bodyPost_ret (res_rm3 rfl _ _ (w.heap.size + 1) _ _ (0, 0) rfl Z8.out) rfl ⟨_, _, rfl, D8.out.wider (by omega) S8.out, G8.out⟩
end Go.Proofs.Ytjffjoednmlkiaa
