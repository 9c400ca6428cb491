/-
  Whether a room can be taken, and what is then left: of the program. Each contract says what it asks. A room is taken, of the program. Each contract says what it asks. A room is given back, of the program. Each contract says what it asks.
-/
import Derived.Test.YtjffjoednmlkiaaPlayRoomsB19
namespace Go.Proofs.Ytjffjoednmlkiaa
open Go.RowKit Go.Maps Go.MapKept Go.ChangeMaps
set_option linter.unusedVariables false

theorem res_rm3 {fn : Func} {x u v : Tmp} (hf : fn.results = #[.cell x 29, .tmp u, .tmp v]) (tmps : Array Value) (w : World) (g : Nat) (a b : Value) (fr : Nat × Nat) (hp : tmps.getD x undef = .pointer (some ⟨g, 0, none⟩))
    (hg : w.heap[g]? = some (.cells #[a, b] 29 fr)) : (results fn tmps).run Try.prog w = .ok (.tuple #[.agg #[a, b], tmps.getD u undef, tmps.getD v undef]) w := by
  have hp' : tmps[x]?.getD undef = .pointer (some ⟨g, 0, none⟩) := by simpa using hp
  simp [results, hf, hp', asAddr, run_loadVar_row w g _ _ _ fr _ hg Try.underlying29 rfl rmInfo]
theorem res_rm2 {fn : Func} {x u : Tmp} (hf : fn.results = #[.cell x 29, .tmp u]) (tmps : Array Value) (w : World) (g : Nat) (a b : Value) (fr : Nat × Nat) (hp : tmps.getD x undef = .pointer (some ⟨g, 0, none⟩))
    (hg : w.heap[g]? = some (.cells #[a, b] 29 fr)) : (results fn tmps).run Try.prog w = .ok (.tuple #[.agg #[a, b], tmps.getD u undef]) w := by
  have hp' : tmps[x]?.getD undef = .pointer (some ⟨g, 0, none⟩) := by simpa using hp
  simp [results, hf, hp', asAddr, run_loadVar_row w g _ _ _ fr _ hg Try.underlying29 rfl rmInfo]
/-- What a taking tells: rows, held rooms, the place, whether there is one. -/
def TakeP (m : List (List Int)) (hs : List Hl) (s : Int) (X : List (List Int)) (Y : List Hl) (at_ : Int) (ok : Bool) : Prop :=
  (¬ (RoomsOk m hs ∧ orP s) ∧ X = [] ∧ Y = [] ∧ at_ = 0 ∧ ok = false) ∨
  ((RoomsOk m hs ∧ orP s ∧ (∀ o, ordN s ≤ o → o < 6 → m.getD o [] = [])) ∧ X = [] ∧ Y = [] ∧ at_ = 0 ∧ ok = false) ∨
  ∃ (o a : Nat) (r : List Int), (RoomsOk m hs ∧ orP s ∧ ordN s ≤ o ∧ o < 6 ∧ (∀ o', ordN s ≤ o' → o' < o → m.getD o' [] = []) ∧ m.getD o [] = (a : Int) :: r) ∧
    X = plR a (ordN s) (o - ordN s) (m.set o r) ∧ Y = putH (a : Int) (ordN s : Int) hs ∧ at_ = (a : Int) ∧ ok = true
theorem takeP_ex (m : List (List Int)) (hs : List Hl) (s : Int) : ∃ X Y a ok, TakeP m hs s X Y a ok := by
  by_cases h : RoomsOk m hs ∧ orP s
  · rcases h.1.all.first h.1.vals (ordN s) (ordN_le s) with ⟨_, h2⟩ | ⟨o, a, r, _, h1, h2, h3, h4⟩
    · exact ⟨_, _, _, _, .inr (.inl ⟨⟨h.1, h.2, h2⟩, rfl, rfl, rfl, rfl⟩)⟩
    · exact ⟨_, _, _, _, .inr (.inr ⟨o, a, r, ⟨h.1, h.2, h1, h2, h3, h4⟩, rfl, rfl, rfl, rfl⟩)⟩
  · exact ⟨_, _, _, _, .inl ⟨h, rfl, rfl, rfl, rfl⟩⟩
theorem take_is {m : List (List Int)} {hs : List Hl} {s : Int} {o a : Nat} {r : List Int} (h : RoomsOk m hs) (h1 : ordN s ≤ o) (h2 : o < 6) (h4 : m.getD o [] = (a : Int) :: r) :
    (freeG m).getD a none = some (o : Int) ∧ a + 2 ^ o ≤ 32 ∧
    AllRows ((hlG a (ordN s) (o - ordN s) (freeG m)).set a none) (plR a (ordN s) (o - ordN s) (m.set o r)) ∧
    IsHeld ((heldM hs).set a (some (ordN s : Int))) (putH (a : Int) (ordN s : Int) hs) := by
  have hk := ((h.all.row o h2).mem (a : Int)).1 (by rw [h4]; simp)
  have hm := h.rmFree (h.freeMem hk)
  obtain ⟨an, on, e1, e2, e3, e4, e5, e6⟩ := rm_fit hm
  have ea : an = a := by omega
  have eo : on = o := by omega
  rw [ea, eo] at e4
  have es : ordN s + (o - ordN s) = o := by omega
  refine ⟨by rw [← lkM_nat]; exact hk, e4, ?_, h.heldIs.put a (by omega) _⟩
  rw [hlG_pl]
  refine plR_all a (ordN s) _ _ _ (h.all.pop a o r h2 h4) (by omega) (by rw [es]; exact e4) (fun q q1 q2 => ?_)
  rw [es] at q2
  rw [getD_set _ _ _ _ _ (by rw [h.all.len]; omega), if_neg (by omega)]
  exact h.inside hk q q1 q2
theorem takeP_small {m : List (List Int)} {hs : List Hl} {s : Int} {X : List (List Int)} {Y : List Hl} {a : Int} {ok : Bool} (h : TakeP m hs s X Y a ok) : X.length + tot X ≤ 1048576 ∧ Y.length ≤ 1048576 := by
  rcases h with ⟨_, rfl, rfl, _, _⟩ | ⟨_, rfl, rfl, _, _⟩ | ⟨o, a', r, ⟨h0, _, h1, h2, _, h4⟩, rfl, rfl, _, _⟩
  · exact ⟨by decide, by decide⟩
  · exact ⟨by decide, by decide⟩
  · have := take_is (s := s) h0 h1 h2 h4
    exact ⟨this.2.2.1.tot, by have := this.2.2.2.short; omega⟩
end Go.Proofs.Ytjffjoednmlkiaa

namespace Go.Proofs.Ytjffjoednmlkiaa
open Go.RowKit Go.Maps Go.MapKept Go.ChangeMaps
set_option linter.unusedVariables false

/-- All that the map tells is an order. -/
def Vals (G : Om) : Prop := ∀ p x, G.getD p none = some x → 0 ≤ x ∧ x ≤ 5
theorem Vals.set {G : Om} (h : Vals G) (q : Nat) (v : Option Int) (hv : ∀ x, v = some x → 0 ≤ x ∧ x ≤ 5) : Vals (G.set q v) := by
  intro p x hx
  by_cases hq : q < G.length
  · rw [getD_set _ _ _ _ _ hq] at hx
    split at hx
    · exact hv x hx
    · exact h p x hx
  · rw [List.set_eq_of_length_le (by omega)] at hx
    exact h p x hx
theorem Vals.hl (a want : Nat) : ∀ (j : Nat) {G : Om}, Vals G → want + j ≤ 5 → Vals (hlG a want j G)
  | 0, G, h, _ => h
  | j + 1, G, h, h5 => Vals.hl a want j ((h.set a _ (fun x hx => by simp only [Option.some.injEq] at hx; omega)).set _ _ (fun x hx => by simp only [Option.some.injEq] at hx; omega)) (by omega)
set_option maxRecDepth 100000 in
set_option maxHeartbeats 3200000 in
theorem takeRoom_calls (f h : Value) (m : List (List Int)) (hs : List Hl) (s : Int) (X : List (List Int)) (Y : List Hl) (at_ : Int) (ok : Bool) (w : World) (hf : RdM w f m) (hh : RdH w h hs) (hz : m.length + tot m ≤ 1048576) (hz2 : hs.length ≤ 1048576) (hX : TakeP m hs s X Y at_ ok) :
    Calls Try.prog 123 #[.agg #[f, h], .int .i64 s] w fun e w' => ∃ f' h', e = .returned (.tuple #[.agg #[f', h'], .int .i64 at_, .bool ok]) ∧ RomV w' w.heap.size w'.heap.size f' h' X Y ∧ Below w.heap.size w w' := by
  have RF := hide hf
  have RH := hide hh
  obtain ⟨good, hgood⟩ := bol_exR (RoomsOk m hs)
  have GR := hide (fun V p q h1 h2 => goodRooms_calls p q m hs good V h1 h2 (by omega) hz2 hgood)
  have A0 := hide (Hand.twoN w #[f, h] nilR 29 29)
  have HG := hide hgood
  obtain ⟨e0, e1⟩ := (A0.out.atBox 0 rfl).c2
  have q0 := (A0.out.atBox 0 rfl).frozen 0
  have q1 := (A0.out.atBox 0 rfl).frozen 1
  clear hf hh hz hz2 hgood
  by_cases hor : orP s
  case neg =>
    have E := hide (orB_no hor)
    obtain ⟨rfl, rfl, rfl, rfl⟩ : X = [] ∧ Y = [] ∧ at_ = 0 ∧ ok = false := by
      rcases hX with ⟨_, ee⟩ | ⟨⟨_, h2, _⟩, _⟩ | ⟨_, _, _, ⟨_, h2, _⟩, _⟩
      · exact ee
      · exact absurd h2 hor
      · exact absurd h2 hor
    have C := hide (orderFor_calls s)
    rw [E.out.1, E.out.2] at C
    clear hor hX GR RF RH HG
    go_enter Try.func123, Try.ntmps123
    go_wp2_with (go_at_call 154; refine (C.out _).mono ?_; rintro e w' ⟨rfl, rfl⟩)
    exact bodyPost_ret (res_rm3 rfl _ _ (w.heap.size + 1) _ _ (0, 0) rfl (A0.out.atBox 0 rfl)) rfl ⟨_, _, rfl, RomV.nil _ _ _, A0.out.below⟩
  have E := hide (orB_yes hor)
  have C := hide (orderFor_calls s)
  rw [E.out.1, E.out.2] at C
  have OL := ordN_le s
  obtain ⟨N, hN⟩ : ∃ N, N = ordN s := ⟨_, rfl⟩
  have HN := hide hN
  rw [← hN] at C OL
  have HX := hide hX
  have OR := hide hor
  clear hor hX hN E
  go_enter Try.func123, Try.ntmps123
  go_wp2_with fail
  refine (C.out _).mono ?_
  rintro e w0 ⟨rfl, rfl⟩
  obtain ⟨x0, x1⟩ := (A0.out.atBox 1 rfl).c2
  go_wp2_with fail
  refine (GR.out _ _ _ (RF.out.below A0.out.below) (RH.out.below A0.out.below)).mono ?_
  rintro e w1 ⟨rfl, b1⟩
  have A1 := hide (A0.out.step b1)
  clear b1 A0 GR x0 x1 e0 e1 q0 q1 C
  obtain ⟨e0, e1⟩ := (A1.out.atBox 0 rfl).c2
  have q0 := (A1.out.atBox 0 rfl).frozen 0
  have q1 := (A1.out.atBox 0 rfl).frozen 1
  obtain ⟨x0, x1⟩ := (A1.out.atBox 1 rfl).c2
  cases good with
  | false =>
    have N2 := hide (A1.out.store2 0 rfl (.slice none 0 0) (.slice none 0 0))
    obtain ⟨rfl, rfl, rfl, rfl⟩ : X = [] ∧ Y = [] ∧ at_ = 0 ∧ ok = false := by
      have hn : ¬ RoomsOk m hs := fun hh => by have := HG.out.2 hh; cases this
      rcases HX.out with ⟨_, ee⟩ | ⟨⟨h2, _⟩, _⟩ | ⟨_, _, _, ⟨h2, _⟩, _⟩
      · exact ee
      · exact absurd h2 hn
      · exact absurd h2 hn
    clear HX HG
    go_wp2
    exact bodyPost_ret (res_rm3 rfl _ _ (w.heap.size + 1) _ _ (0, 0) rfl (N2.out.atBox 0 rfl)) rfl ⟨_, _, rfl, RomV.nil _ _ _, N2.out.below⟩
  | true =>
  have OK := hide (HG.out.1 rfl)
  clear HG
  go_wp2_with fail
  refine (ordersIn_calls _ _ m hs _ (RF.out.below A1.out.below) (RH.out.below A1.out.below) OK.out.inR).mono ?_
  rintro e w2 ⟨b, c, rfl, hbc, hb0, mb, mc, b2⟩
  have A2 := hide (A1.out.step b2)
  have BX := (A1.out.atBox 0 rfl).lt
  have gb : w.heap.size + 1 < b := by omega
  have MB := hide mb
  have MC := hide mc
  clear mb mc b2 A1 e0 e1 q0 q1 x0 x1 BX hb0
  go_wp2_with fail
  refine (firstOf_calls b (freeG m) (N : Int) _ MB.out).mono ?_
  rintro e w3 ⟨rfl, b3⟩
  have A3 := hide (A2.out.step b3)
  have MB3 := hide (MB.out.below b3)
  have MC3 := hide (MC.out.below b3)
  clear b3 A2 MB MC
  obtain ⟨e0, e1⟩ := (A3.out.atBox 0 rfl).c2
  have q0 := (A3.out.atBox 0 rfl).frozen 0
  have q1 := (A3.out.atBox 0 rfl).frozen 1
  have FS := OK.out.all.first OK.out.vals N OL
  rcases FS with ⟨f1, f2⟩ | ⟨o, a, r, f1, f2, f3, f4, f5⟩
  · rw [f1]
    obtain ⟨rfl, rfl, rfl, rfl⟩ : X = [] ∧ Y = [] ∧ at_ = 0 ∧ ok = false := by
      rcases HX.out with ⟨hn, _⟩ | ⟨_, ee⟩ | ⟨o, a, r, ⟨_, _, g1, g2, _, g4⟩, _⟩
      · exact absurd ⟨OK.out, OR.out⟩ hn
      · exact ee
      · have := f2 o (by rw [HN.out]; exact g1) g2
        rw [g4] at this
        cases this
    have N2 := hide (A3.out.store2 0 rfl (.slice none 0 0) (.slice none 0 0))
    have hd : decide ((6 : Int) < 6) = false := by decide
    rw [hd]
    clear HX f1 f2 hd
    go_wp2
    exact bodyPost_ret (res_rm3 rfl _ _ (w.heap.size + 1) _ _ (0, 0) rfl (N2.out.atBox 0 rfl)) rfl ⟨_, _, rfl, RomV.nil _ _ _, N2.out.below⟩
  · rw [HN.out] at f2 f4
    obtain ⟨T1, T2, T3, T4⟩ := take_is (s := s) OK.out f2 f3 f5
    obtain ⟨rfl, rfl, rfl, rfl⟩ : X = plR a (ordN s) (o - ordN s) (m.set o r) ∧ Y = putH (a : Int) (ordN s : Int) hs ∧ at_ = (a : Int) ∧ ok = true := by
      rcases HX.out with ⟨hn, _⟩ | ⟨⟨_, _, h3⟩, _⟩ | ⟨o', a', r', ⟨_, _, g1, g2, g3, g4⟩, ee⟩
      · exact absurd ⟨OK.out, OR.out⟩ hn
      · have := h3 o f2 f3
        rw [f5] at this
        cases this
      · have e : o' = o := by
          by_cases l1 : o' < o
          · have := f4 o' g1 l1
            rw [g4] at this; cases this
          · by_cases l2 : o < o'
            · have := g3 o f2 l2
              rw [f5] at this; cases this
            · omega
        subst e
        rw [f5] at g4
        simp only [List.cons.injEq] at g4
        obtain ⟨g5, rfl⟩ := g4
        have : a = a' := by omega
        subst this
        exact ee
    rw [f1]
    have ed : decide ((((a : Int), (o : Int)) : Int × Int).2 < 6) = true := decide_eq_true (by simp only; omega)
    rw [ed]
    simp only
    have a31 : a < 32 := by have := Nat.one_le_two_pow (n := o); omega
    obtain ⟨F1, hF1⟩ : ∃ F, F = hlG a (ordN s) (o - ordN s) (freeG m) := ⟨_, rfl⟩
    have VF : Hid (Vals (F1.set a none)) := by rw [hF1]; exact (Vals.hl a _ _ OK.out.vals (by omega)).set a none (fun x hx => by cases hx)
    have HT := hide (fun V hV => halveTo_calls b (freeG m) a (ordN s) (o - ordN s) V hV (by rw [T1]; congr 1; omega) (by rw [show ordN s + (o - ordN s) = o by omega]; exact T2) (by omega))
    rw [← hF1, ← HN.out] at HT
    rw [← hF1] at T3
    have T3E := hide T3.is
    have T4E := hide T4.is
    clear T1 T2 T3 T4 f1 f2 f3 f4 f5 HX OK hF1 ed
    go_wp2_with fail
    refine (HT.out _ MB3.out).mono ?_
    rintro e w4 ⟨rfl, mb4, g4⟩
    have X4 := (A3.out.atBox 0 rfl).chg g4 (.inl gb)
    have mc4 := MC3.out.chg g4 (.inr (by omega))
    have B4 := A3.out.below.trans (g4.below (B := w.heap.size) (by omega) A3.out.below.size)
    obtain ⟨w5, run5, mb5, g5, s5⟩ := mb4.del a a31 0
    have X5 := X4.kept g5 (by simp; omega)
    have mc5 := mc4.kept g5 (by simp; omega)
    have B5 := B4.grown g5 B4.size (fun k hk => by cases hk; omega)
    obtain ⟨w6, run6, mc6, g6, s6⟩ := mc5.put a a31 (N : Int) (wfI_small (by omega) (by omega))
    have X6 := hide (X5.kept g6 (by simp; omega))
    have mb6 := mb5.kept g6 (by simp; omega)
    have B6 := hide (B5.grown g6 B5.size (fun k hk => by cases hk; omega))
    have RQ := hide (roomsFrom_calls b c _ _ w6 mb6 mc6 VF.out)
    have T4F : Hid (heldK ((heldM hs).set a (some (N : Int))) (keysG ((heldM hs).set a (some (N : Int)))) = putH (a : Int) (ordN s : Int) hs) := by rw [HN.out]; exact T4E.out
    have BL : Hid (b < w6.heap.size) := mb6.lt
    clear X4 mc4 B4 X5 mc5 B5 mb4 g4 mb5 g5 s5 mc6 g6 s6 mb6 HT MB3 MC3 A3 e0 e1 q0 q1 VF T4E
    go_wp2_with fail
    refine RQ.out.mono ?_
    rintro e w7 ⟨f', h', rfl, d7, b7⟩
    have X7 := X6.out.below b7
    obtain ⟨af, cf, ah, ch, rfl, rfl⟩ := d7.sl
    obtain ⟨n1, hn1⟩ : ∃ n, n = (rowsK (F1.set a none) (keysG (F1.set a none))).length := ⟨_, rfl⟩
    obtain ⟨n2, hn2⟩ : ∃ n, n = (heldK ((heldM hs).set a (some (N : Int))) (keysG ((heldM hs).set a (some (N : Int))))).length := ⟨_, rfl⟩
    rw [← hn1, ← hn2] at d7 ⊢
    rw [T3E.out, T4F.out] at d7
    have e0 := X7.c2.1
    have e1 := X7.c2.2
    have q0 := X7.frozen 0
    have q1 := X7.frozen 1
    have g8 := grown_tr (grown_setCell w7 (w.heap.size + 1) 0 (.slice af n1 cf)) (grown_setCell _ (w.heap.size + 1) 1 (.slice ah n2 ch))
    have Z8 := hide ((X7.set 0 (.slice af n1 cf)).set 1 (.slice ah n2 ch))
    have B7 := B6.out.trans (b7.mono B6.out.size)
    have D8 := hide ((d7.wider (lo' := w.heap.size + 2) (by have := BL.out; omega) (Nat.le_refl _)).chg (Chg.ofGrown (lo := w.heap.size + 1) (hi := w.heap.size + 2) g8 (fun k hk => by cases hk; omega)) (.inr (Nat.le_refl _)))
    have G8 := hide (B7.grown g8 B7.size (fun j hj => by cases hj; omega))
    have S8 := hide g8.size
    clear X7 B7 g8 d7 b7 run5 run6 hn1 hn2 X6 B6 RQ T3E T4F
    go_wp2
    exact bodyPost_ret (res_rm3 rfl _ _ (w.heap.size + 1) _ _ (0, 0) rfl Z8.out) rfl ⟨_, _, rfl, D8.out.wider (by omega) S8.out, G8.out⟩
end Go.Proofs.Ytjffjoednmlkiaa

namespace Go.Proofs.Ytjffjoednmlkiaa
open Go.RowKit Go.Maps Go.MapKept Go.ChangeMaps
set_option linter.unusedVariables false

/-- A room that is given back, put together with its buddies, laid into rows. -/
def jwR : Nat → Nat → Nat → List (List Int) → List (List Int)
  | 0, a, o, m => m.set o (putS (a : Int) (m.getD o []))
  | f + 1, a, o, m => if o < 5 ∧ (budN a o : Int) ∈ m.getD o [] then jwR f (min a (budN a o)) (o + 1) (m.set o ((m.getD o []).filter fun x => decide (x ≠ (budN a o : Int)))) else m.set o (putS (a : Int) (m.getD o []))
theorem set_same (G : Om) (a : Nat) (h : G.getD a none = none) : G.set a none = G := by
  refine ext_getDR none _ _ (by rw [List.length_set]) (fun i hi => ?_)
  rw [List.length_set] at hi
  by_cases ha : a < G.length
  · rw [getD_set _ _ _ _ _ ha]
    split
    · rename_i e; rw [e, h]
    · rfl
  · rw [List.set_eq_of_length_le (by omega)]
theorem jn_all : ∀ (f a o : Nat) (G : Om) (m : List (List Int)), AllRows G m → f = 5 - o → o ≤ 5 → a < 32 → a % 2 ^ o = 0 → G.getD a none = none → AllRows (jnG f a o (G.set a (some (o : Int)))) (jwR f a o m)
  | 0, a, o, G, m, h, hf, ho, ha, hr, hn => h.put a o ha (by omega) hn
  | f + 1, a, o, G, m, h, hf, ho, ha, hr, hn => by
      have o5 : o < 5 := by omega
      obtain ⟨k1, k2, k3, k4, k5, k6⟩ := bud_all a ha o o5 hr
      have hgb : (G.set a (some (o : Int))).getD (budN a o) none = G.getD (budN a o) none := by
        rw [getD_set _ _ _ _ _ (by rw [h.len]; exact ha), if_neg k4]
      have iff1 : (budN a o : Int) ∈ m.getD o [] ↔ G.getD (budN a o) none = some (o : Int) := by rw [(h.row o (by omega)).mem, lkM_nat]
      unfold jnG jwR
      rw [hgb]
      by_cases hc : G.getD (budN a o) none = some (o : Int)
      · rw [if_pos ⟨o5, hc⟩, if_pos ⟨o5, iff1.2 hc⟩]
        have h1 := h.del (budN a o) o k2 (by omega) hc
        have hl : ((G.set (budN a o) none)).getD (min a (budN a o)) none = none := by
          rw [getD_set _ _ _ _ _ (by rw [h.len]; exact k2)]
          split
          · rfl
          · rename_i e
            have : min a (budN a o) = a := by omega
            rw [this]; exact hn
        have e : (((G.set a (some (o : Int))).set (max a (budN a o)) none).set (min a (budN a o)) (some ((o + 1 : Nat) : Int))) = (G.set (budN a o) none).set (min a (budN a o)) (some ((o + 1 : Nat) : Int)) := by
          rcases min_is a (budN a o) with ⟨x1, x2, x3⟩ | ⟨x1, x2, x3⟩
          · rw [x1, x2, List.set_comm _ _ k4.symm, List.set_set]
          · rw [x1, x2, List.set_set, set_same G a hn, List.set_set]
        rw [e]
        exact jn_all f _ (o + 1) _ _ h1 (by omega) (by omega) (by omega) k3 hl
      · rw [if_neg (fun x => hc x.2), if_neg (fun x => hc (iff1.1 x.2))]
        exact h.put a o ha (by omega) hn
theorem Vals.jn : ∀ (f a o : Nat) {G : Om}, Vals G → Vals (jnG f a o G)
  | 0, a, o, G, h => h
  | f + 1, a, o, G, h => by
      unfold jnG
      split
      · rename_i hc
        exact Vals.jn f _ _ ((h.set _ none (fun x hx => by cases hx)).set _ _ (fun x hx => by simp only [Option.some.injEq] at hx; omega))
      · exact h
/-- What a giving back tells. -/
def GiveP (m : List (List Int)) (hs : List Hl) (a : Int) (X : List (List Int)) (Y : List Hl) (ok : Bool) : Prop :=
  (¬ RoomsOk m hs ∧ X = [] ∧ Y = [] ∧ ok = false) ∨
  ((RoomsOk m hs ∧ ∀ o, (a, o) ∉ hs) ∧ X = [] ∧ Y = [] ∧ ok = false) ∨
  ∃ (an o : Nat), (RoomsOk m hs ∧ a = (an : Int) ∧ (a, (o : Int)) ∈ hs) ∧ X = jwR (5 - o) an o m ∧ Y = (hs.filter fun x => decide (x.1 ≠ (an : Int))) ∧ ok = true
theorem giveP_ex (m : List (List Int)) (hs : List Hl) (a : Int) : ∃ X Y ok, GiveP m hs a X Y ok := by
  by_cases h : RoomsOk m hs
  · by_cases h2 : ∃ o, (a, o) ∈ hs
    · obtain ⟨o, ho⟩ := h2
      obtain ⟨an, on, e1, e2, _⟩ := rm_fit (h.rmHeld ho)
      exact ⟨_, _, _, .inr (.inr ⟨an, on, ⟨h, e1, by rw [← e2]; exact ho⟩, rfl, rfl, rfl⟩)⟩
    · exact ⟨_, _, _, .inr (.inl ⟨⟨h, fun o ho => h2 ⟨o, ho⟩⟩, rfl, rfl, rfl⟩)⟩
  · exact ⟨_, _, _, .inl ⟨h, rfl, rfl, rfl⟩⟩
theorem give_is {m : List (List Int)} {hs : List Hl} {an o : Nat} (h : RoomsOk m hs) (hh : ((an : Int), (o : Int)) ∈ hs) :
    (heldM hs).getD an none = some (o : Int) ∧ (freeG m).getD an none = none ∧ o ≤ 5 ∧ an < 32 ∧ an % 2 ^ o = 0 ∧
    AllRows (jnG (5 - o) an o ((freeG m).set an (some (o : Int)))) (jwR (5 - o) an o m) ∧
    IsHeld ((heldM hs).set an none) (hs.filter fun x => decide (x.1 ≠ (an : Int))) := by
  obtain ⟨an', on', e1, e2, e3, e4, e5, e6⟩ := rm_fit (h.rmHeld hh)
  obtain rfl : an' = an := by omega
  obtain rfl : on' = o := by omega
  have hn : (freeG m).getD an' none = none := by
    rw [← lkM_nat]
    cases hq : lkM (freeG m) (an' : Int) with
    | none => rfl
    | some x =>
      obtain ⟨x', hx⟩ : ∃ x' : Nat, x = (x' : Int) := ⟨x.toNat, by have := h.vals an' x (by rw [← lkM_nat]; exact hq); omega⟩
      rw [hx] at hq
      exact absurd hh (h.apart hq _)
  exact ⟨by rw [← lkM_nat]; exact (h.heldIs.mem _ _).1 hh, hn, e3, e5, e6, jn_all _ _ _ _ _ h.all rfl e3 e5 e6 hn, h.heldIs.del an' e5⟩
theorem giveP_small {m : List (List Int)} {hs : List Hl} {a : Int} {X : List (List Int)} {Y : List Hl} {ok : Bool} (h : GiveP m hs a X Y ok) : X.length + tot X ≤ 1048576 ∧ Y.length ≤ 1048576 := by
  rcases h with ⟨_, rfl, rfl, _⟩ | ⟨_, rfl, rfl, _⟩ | ⟨an, o, ⟨h0, e, hh⟩, rfl, rfl, _⟩
  · exact ⟨by decide, by decide⟩
  · exact ⟨by decide, by decide⟩
  · subst e
    have := give_is h0 hh
    exact ⟨this.2.2.2.2.2.1.tot, by have := this.2.2.2.2.2.2.short; omega⟩

set_option maxRecDepth 100000 in
set_option maxHeartbeats 3200000 in
theorem giveRoom_calls (f h : Value) (m : List (List Int)) (hs : List Hl) (s : Int) (X : List (List Int)) (Y : List Hl) (ok : Bool) (w : World) (hf : RdM w f m) (hh : RdH w h hs) (hz : m.length + tot m ≤ 1048576) (hz2 : hs.length ≤ 1048576) (hw : wfI s) (hX : GiveP m hs s X Y ok) :
    Calls Try.prog 14 #[.agg #[f, h], .int .i64 s] w fun e w' => ∃ f' h', e = .returned (.tuple #[.agg #[f', h'], .bool ok]) ∧ RomV w' w.heap.size w'.heap.size f' h' X Y ∧ Below w.heap.size w w' := by
  have RF := hide hf
  have RH := hide hh
  obtain ⟨good, hgood⟩ := bol_exR (RoomsOk m hs)
  have GR := hide (fun V p q h1 h2 => goodRooms_calls p q m hs good V h1 h2 (by omega) hz2 hgood)
  have A0 := hide (Hand.twoN w #[f, h] nilR 29 29)
  have HG := hide hgood
  have HW := hide hw
  have HX := hide hX
  obtain ⟨x0, x1⟩ := (A0.out.atBox 1 rfl).c2
  clear hf hh hz hz2 hgood hw hX
  go_enter Try.func14, Try.ntmps14
  go_wp2_with fail
  refine (GR.out _ _ _ (RF.out.below A0.out.below) (RH.out.below A0.out.below)).mono ?_
  rintro e w1 ⟨rfl, b1⟩
  have A1 := hide (A0.out.step b1)
  clear b1 A0 GR x0 x1
  obtain ⟨e0, e1⟩ := (A1.out.atBox 0 rfl).c2
  have q0 := (A1.out.atBox 0 rfl).frozen 0
  have q1 := (A1.out.atBox 0 rfl).frozen 1
  obtain ⟨x0, x1⟩ := (A1.out.atBox 1 rfl).c2
  cases good with
  | false =>
    have N2 := hide (A1.out.store2 0 rfl (.slice none 0 0) (.slice none 0 0))
    obtain ⟨rfl, rfl, rfl⟩ : X = [] ∧ Y = [] ∧ ok = false := by
      have hn : ¬ RoomsOk m hs := fun hh => by have := HG.out.2 hh; cases this
      rcases HX.out with ⟨_, ee⟩ | ⟨⟨h2, _⟩, _⟩ | ⟨_, _, ⟨h2, _⟩, _⟩
      · exact ee
      · exact absurd h2 hn
      · exact absurd h2 hn
    clear HX HG
    go_wp2
    exact bodyPost_ret (res_rm2 rfl _ _ (w.heap.size + 1) _ _ (0, 0) rfl (N2.out.atBox 0 rfl)) rfl ⟨_, _, rfl, RomV.nil _ _ _, N2.out.below⟩
  | true =>
  have OK := hide (HG.out.1 rfl)
  clear HG
  go_wp2_with fail
  refine (ordersIn_calls _ _ m hs _ (RF.out.below A1.out.below) (RH.out.below A1.out.below) OK.out.inR).mono ?_
  rintro e w2 ⟨b, c, rfl, hbc, hb0, mb, mc, b2⟩
  have A2 := hide (A1.out.step b2)
  have BX := (A1.out.atBox 0 rfl).lt
  have gb : w.heap.size + 1 < b := by omega
  have MB := hide mb
  have MC := hide mc
  have LK := mc.lookOk (k := s) HW.out
  clear mb mc b2 A1 e0 e1 q0 q1 x0 x1 BX hb0
  obtain ⟨e0, e1⟩ := (A2.out.atBox 0 rfl).c2
  have q0 := (A2.out.atBox 0 rfl).frozen 0
  have q1 := (A2.out.atBox 0 rfl).frozen 1
  by_cases hm : ∃ o, (s, o) ∈ hs
  case neg =>
    have hl : lkM (heldM hs) s = none := by
      cases hq : lkM (heldM hs) s with
      | none => rfl
      | some x => exact absurd ⟨x, (OK.out.heldIs.mem s x).2 hq⟩ hm
    rw [hl] at LK
    simp only [Option.getD_none, Option.isSome_none] at LK
    have N2 := hide (A2.out.store2 0 rfl (.slice none 0 0) (.slice none 0 0))
    obtain ⟨rfl, rfl, rfl⟩ : X = [] ∧ Y = [] ∧ ok = false := by
      rcases HX.out with ⟨_, ee⟩ | ⟨_, ee⟩ | ⟨_, o, ⟨_, _, h2⟩, _⟩
      · exact ee
      · exact ee
      · exact absurd ⟨_, h2⟩ hm
    clear HX hm hl
    go_wp2
    exact bodyPost_ret (res_rm2 rfl _ _ (w.heap.size + 1) _ _ (0, 0) rfl (N2.out.atBox 0 rfl)) rfl ⟨_, _, rfl, RomV.nil _ _ _, N2.out.below⟩
  obtain ⟨an, o, es, hon, hXY⟩ : ∃ an o : Nat, s = (an : Int) ∧ ((an : Int), (o : Int)) ∈ hs ∧ X = jwR (5 - o) an o m ∧ Y = (hs.filter fun x => decide (x.1 ≠ (an : Int))) ∧ ok = true := by
    rcases HX.out with ⟨h2, _⟩ | ⟨⟨_, h2⟩, _⟩ | ⟨an, o, ⟨_, e, h2⟩, ee⟩
    · exact absurd OK.out h2
    · obtain ⟨o, ho⟩ := hm; exact absurd ho (h2 o)
    · exact ⟨an, o, e, by rw [← e]; exact h2, ee⟩
  obtain ⟨rfl, rfl, rfl⟩ := hXY
  subst es
  obtain ⟨T1, T0, o5, a31, T2, T3, T4⟩ := give_is OK.out hon
  rw [lkM_nat, T1] at LK
  simp only [Option.getD_some, Option.isSome_some] at LK
  obtain ⟨F1, hF1⟩ : ∃ F, F = jnG (5 - o) an o ((freeG m).set an (some (o : Int))) := ⟨_, rfl⟩
  have VF : Hid (Vals F1) := by
    rw [hF1]
    exact Vals.jn _ _ _ (Vals.set OK.out.vals an _ (fun x hx => by simp only [Option.some.injEq] at hx; omega))
  have JF := hide (fun V hV => joinFrom_calls b ((freeG m).set an (some (o : Int))) an o V hV a31 o5 T2 (by rw [getD_set _ _ _ _ _ (by rw [OK.out.all.len]; exact a31), if_pos rfl]))
  rw [← hF1] at JF T3
  have T3E := hide T3.is
  have T4E := hide T4.is
  obtain ⟨w4, run4, mc4, g4, s4⟩ := MC.out.del an a31 0
  have X4 := (A2.out.atBox 0 rfl).kept g4 (by simp; omega)
  have mb4 := MB.out.kept g4 (by simp; omega)
  have B4 := A2.out.below.grown g4 A2.out.below.size (fun k hk => by cases hk; omega)
  obtain ⟨w5, run5, mb5, g5, s5⟩ := mb4.put an a31 (o : Int) (wfI_small (by omega) (by omega))
  have X5 := hide (X4.kept g5 (by simp; omega))
  have mc5 := hide (mc4.kept g5 (by simp; omega))
  have B5 := hide (B4.grown g5 B4.size (fun k hk => by cases hk; omega))
  have MB5 := hide mb5
  clear mc4 g4 s4 X4 mb4 B4 mb5 g5 s5 T0 T1 T2 T3 T4 HX hm hon OK hF1 MB MC A2 e0 e1 q0 q1
  go_wp2_with fail
  refine (JF.out _ MB5.out).mono ?_
  rintro e w6 ⟨rfl, mb6, g6⟩
  have X6 := hide (X5.out.chg g6 (.inl gb))
  have mc6 := mc5.out.chg g6 (.inr (by omega))
  have B6 := hide (B5.out.trans (g6.below (B := w.heap.size) (by omega) B5.out.size))
  have RQ := hide (roomsFrom_calls b c _ _ w6 mb6 mc6 VF.out)
  have BL : Hid (b < w6.heap.size) := mb6.lt
  clear mb6 mc6 g6 X5 mc5 B5 MB5 JF VF run4 run5 LK
  go_wp2_with fail
  refine RQ.out.mono ?_
  rintro e w7 ⟨f', h', rfl, d7, b7⟩
  have X7 := X6.out.below b7
  obtain ⟨af, cf, ah, ch, rfl, rfl⟩ := d7.sl
  obtain ⟨n1, hn1⟩ : ∃ n, n = (rowsK F1 (keysG F1)).length := ⟨_, rfl⟩
  obtain ⟨n2, hn2⟩ : ∃ n, n = (heldK ((heldM hs).set an none) (keysG ((heldM hs).set an none))).length := ⟨_, rfl⟩
  rw [← hn1, ← hn2] at d7 ⊢
  rw [T3E.out, T4E.out] at d7
  have e0 := X7.c2.1
  have e1 := X7.c2.2
  have q0 := X7.frozen 0
  have q1 := X7.frozen 1
  have g8 := grown_tr (grown_setCell w7 (w.heap.size + 1) 0 (.slice af n1 cf)) (grown_setCell _ (w.heap.size + 1) 1 (.slice ah n2 ch))
  have Z8 := hide ((X7.set 0 (.slice af n1 cf)).set 1 (.slice ah n2 ch))
  have B7 := B6.out.trans (b7.mono B6.out.size)
  have D8 := hide ((d7.wider (lo' := w.heap.size + 2) (by have := BL.out; omega) (Nat.le_refl _)).chg (Chg.ofGrown (lo := w.heap.size + 1) (hi := w.heap.size + 2) g8 (fun k hk => by cases hk; omega)) (.inr (Nat.le_refl _)))
  have G8 := hide (B7.grown g8 B7.size (fun j hj => by cases hj; omega))
  have S8 := hide g8.size
  clear X7 B7 g8 d7 b7 hn1 hn2 X6 B6 RQ T3E T4E
  go_wp2
  exact bodyPost_ret (res_rm2 rfl _ _ (w.heap.size + 1) _ _ (0, 0) rfl Z8.out) rfl ⟨_, _, rfl, D8.out.wider (by omega) S8.out, G8.out⟩
end Go.Proofs.Ytjffjoednmlkiaa
