/-
  A room is given back, of the model. Each contract says what it asks.
-/
import Derived.Test.YtjffjoednmlkiaaRnj
namespace Go.Proofs.Ytjffjoednmlkiaa
open Go.RowKit Go.Maps Go.MapKept Go.ChangeMaps
set_option linter.unusedVariables false
set_option linter.unusedSimpArgs false

set_option maxRecDepth 100000 in
set_option maxHeartbeats 3200000 in
theorem l14GiveNo_calls (f h : Value) (m : List (List Int)) (hs : List Hl) (s : Int) (w : World) (hf : RdM w f m) (hh : RdH w h hs) (hn : ∀ o, (s, o) ∉ hs) :
    Calls Try.prog 53 #[.agg #[f, h], .int .i64 s] w fun e w' => e = .returned (.tuple #[.agg #[f, h], .bool false]) ∧ Below w.heap.size w w' := by
  obtain ⟨af, cf, rfl, p1, p2⟩ := hf.sl
  obtain ⟨ah, ch, rfl, p3, p4⟩ := hh.sl
  have A0 := hide (Hand.twoN w #[.slice af m.length cf, .slice ah hs.length ch] nilR 29 29)
  have RH := hide (hh.below A0.out.below)
  have HN := hide hn
  have hm9 : hs.length ≤ 9223372036854775807 := by have := p3; have p5 := p4; unfold maxLen at p5; omega
  clear hf hh hn p1 p2 p3 p4
  obtain ⟨y0, y1⟩ := (A0.out.atBox 1 rfl).c2
  obtain ⟨e0, e1⟩ := (A0.out.atBox 0 rfl).c2
  have q0 := (A0.out.atBox 0 rfl).frozen 0
  have q1 := (A0.out.atBox 0 rfl).frozen 1
  have A1 := hide (Hand.twoN w #[.slice af m.length cf, .slice ah hs.length ch] #[.slice af m.length cf, .slice ah hs.length ch] 29 29)
  go_enter Try.func53, Try.ntmps53
  go_wp2_with fail
  go_loop [6] (fun v => ∃ t : Nat, t ≤ hs.length ∧ v = .int .i64 (t : Int)) (fun v => hs.length - (intOf v).toNat)
  case atStart => exact ⟨0, Nat.zero_le _, rfl⟩
  case round =>
    obtain ⟨t, ht, rfl⟩ := hrel
    by_cases hlt : t < hs.length
    · have hlt' : (t : Int) < (hs.length : Int) := by omega
      obtain ⟨b, off, x, z, rfl, hx, _, d0, d1⟩ := RH.out.at t hlt
      have hxa : x ≠ s := fun e => HN.out z (by rw [← e, ← hx]; exact getD_memR hs t hl0 hlt)
      have hxd : (x != s) = true := by simpa using hxa
      clear hx d1 hxa
      go_wp2
      go_round
      case rel => exact ⟨t + 1, by omega, by go_num⟩
      case measure => simp [intOf]; omega
    · obtain rfl : t = hs.length := by omega
      go_wp2
      exact bodyPost_ret (res_rm2 rfl _ _ (w.heap.size + 1) _ _ (0, 0) rfl (A1.out.atBox 0 rfl)) rfl ⟨rfl, A1.out.below⟩

set_option maxRecDepth 100000 in
set_option maxHeartbeats 3200000 in
theorem sGiveRoom_calls (f h : Value) (m : List (List Int)) (hs : List Hl) (s : Int) (X : List (List Int)) (Y : List Hl) (ok : Bool) (w : World) (hf : RdM w f m) (hh : RdH w h hs) (hz : m.length + tot m ≤ 1048576) (hz2 : hs.length ≤ 1048576) (hX : GiveP m hs s X Y ok) :
    Calls Try.prog 12 #[.agg #[f, h], .int .i64 s] w fun e w' => ∃ f' h', e = .returned (.tuple #[.agg #[f', h'], .bool ok]) ∧ RomV w' w.heap.size w'.heap.size f' h' X Y ∧ Below w.heap.size w w' := by
  have RF := hide hf
  have RH := hide hh
  obtain ⟨good, hgood⟩ := bol_exR (RoomsOk m hs)
  have GR := hide (fun V p q h1 h2 => sGoodRooms_calls p q m hs good V h1 h2 hz hz2 hgood)
  have A0 := hide (Hand.twoN w #[f, h] nilR 29 29)
  have HG := hide hgood
  have HX := hide hX
  have HZ := hide hz
  obtain ⟨x0, x1⟩ := (A0.out.atBox 1 rfl).c2
  clear hf hh hz hgood hX
  go_enter Try.func12, Try.ntmps12
  go_wp2_with fail
  refine (GR.out _ _ _ (RF.out.below A0.out.below) (RH.out.below A0.out.below)).mono ?_
  rintro e w1 ⟨rfl, b1⟩
  have A1 := hide (A0.out.step b1)
  clear b1 A0 GR x0 x1
  obtain ⟨e0, e1⟩ := (A1.out.atBox 0 rfl).c2
  have q0 := (A1.out.atBox 0 rfl).frozen 0
  have q1 := (A1.out.atBox 0 rfl).frozen 1
  obtain ⟨x0, x1⟩ := (A1.out.atBox 1 rfl).c2
  have N2 := hide (A1.out.store2 0 rfl (.slice none 0 0) (.slice none 0 0))
  cases good with
  | false =>
    obtain ⟨rfl, rfl, rfl⟩ : X = [] ∧ Y = [] ∧ ok = false := by
      have hn : ¬ RoomsOk m hs := fun hh => by have := HG.out.2 hh; cases this
      rcases HX.out with ⟨_, ee⟩ | ⟨⟨h2, _⟩, _⟩ | ⟨_, _, ⟨h2, _⟩, _⟩
      · exact ee
      · exact absurd h2 hn
      · exact absurd h2 hn
    clear HX HG
    go_wp2
    exact bodyPost_ret (res_rm2 rfl _ _ (w.heap.size + 1) _ _ (0, 0) rfl (N2.out.atBox 0 rfl)) rfl ⟨_, _, rfl, RomV.nil _ _ _, N2.out.below⟩
  | true =>
  have OK := hide (HG.out.1 rfl)
  clear HG N2 e0 e1 q0 q1
  go_wp2_with fail
  refine (l14Own_calls f h m hs _ (RF.out.below A1.out.below) (RH.out.below A1.out.below) HZ.out hz2).mono ?_
  rintro e w3 ⟨f3, h3, rfl, d3, b3⟩
  obtain ⟨af3, cf3, ah3, ch3, rfl, rfl⟩ := d3.sl
  have X3 := hide ((A1.out.atBox 0 rfl).below b3)
  have B3 := hide (A1.out.below.trans (b3.mono A1.out.below.size))
  have XL := hide (A1.out.atBox 0 rfl).lt
  have D3 := hide d3
  clear d3 b3 A1 x0 x1
  by_cases hfull : ∃ o, (s, o) ∈ hs
  case neg =>
    have NO := hide (fun o (h : (s, o) ∈ hs) => hfull ⟨o, h⟩)
    obtain ⟨rfl, rfl, rfl⟩ : X = [] ∧ Y = [] ∧ ok = false := by
      rcases HX.out with ⟨_, ee⟩ | ⟨_, ee⟩ | ⟨a, o, ⟨_, _, hin⟩, _⟩
      · exact ee
      · exact ee
      · exact absurd ⟨_, hin⟩ hfull
    clear HX hfull
    go_wp2_with fail
    refine (l14GiveNo_calls _ _ m hs s _ D3.out.rf D3.out.rh NO.out).mono ?_
    rintro e w4 ⟨rfl, b4⟩
    have b5 := below_box w4 (.cells #[.slice af3 m.length cf3, .slice ah3 hs.length ch3] 29)
    have X5 := (X3.out.below b4).below b5
    have B5 := (B3.out.trans (b4.mono B3.out.size)).trans (b5.mono (Nat.le_trans B3.out.size b4.size))
    have e0 := X5.c2.1
    have e1 := X5.c2.2
    have q0 := X5.frozen 0
    have q1 := X5.frozen 1
    have g8 := grown_tr (grown_setCell (w4.alloc (.cells #[.slice af3 m.length cf3, .slice ah3 hs.length ch3] 29)) (w.heap.size + 1) 0 (.slice none 0 0)) (grown_setCell _ (w.heap.size + 1) 1 (.slice none 0 0))
    have Z8 := hide ((X5.set 0 (.slice none 0 0)).set 1 (.slice none 0 0))
    have G8 := hide (B5.grown g8 B5.size (fun j hj => by cases hj; omega))
    clear b4 b5 X5 B5 g8
    go_wp2
    exact bodyPost_ret (res_rm2 rfl _ _ (w.heap.size + 1) _ _ (0, 0) rfl Z8.out) rfl ⟨_, _, rfl, RomV.nil _ _ _, G8.out⟩
  obtain ⟨an, on, hin, hsa, hXe, hYe, rfl⟩ : ∃ an on : Nat, ((an : Int), (on : Int)) ∈ hs ∧ s = (an : Int) ∧ X = jwR (5 - on) an on m ∧ Y = (hs.filter fun x => decide (x.1 ≠ (an : Int))) ∧ ok = true := by
    rcases HX.out with ⟨hn, _⟩ | ⟨⟨_, h3⟩, _⟩ | ⟨a, o, ⟨_, e, hin⟩, e1, e2, e3⟩
    · exact absurd OK.out hn
    · obtain ⟨o, ho⟩ := hfull
      exact absurd ho (h3 o)
    · exact ⟨a, o, by rw [← e]; exact hin, e, e1, e2, e3⟩
  have TK := hide (fun (V : World) (lo hi : Nat) (p q : Value) (dd : RomV V lo hi p q m hs) (hv : hi ≤ V.heap.size) => l14Give_calls p q m hs an on lo hi V dd hv OK.out hin)
  rw [← hXe, ← hYe, ← hsa] at TK
  have SM := hide (giveP_small HX.out)
  clear HX hXe hYe hin hsa hfull
  go_wp2_with fail
  refine (TK.out _ _ _ _ _ D3.out (Nat.le_refl _)).mono ?_
  rintro e w4 ⟨h4, rfl, d4, c4'⟩
  have c4 := c4' _ _ D3.out.headIn
  clear c4'
  have X4 := X3.out.chg c4 (.inl XL.out)
  have B4 := B3.out.trans (c4.below (B := w.heap.size) (by have := XL.out; omega) B3.out.size)
  obtain ⟨ah, ch, rfl⟩ := d4.held.slice
  obtain ⟨n2, hn2⟩ : ∃ n, n = Y.length := ⟨_, rfl⟩
  rw [← hn2] at d4 ⊢
  have b5 := below_box w4 (.cells #[.slice af3 m.length cf3, .slice ah n2 ch] 29)
  have xx := BoxAt.new w4 #[.slice af3 m.length cf3, .slice ah n2 ch] 29
  have RF5 := hide (d4.rf.below (b5.mono (Nat.le_refl _)))
  have RH5 := hide (d4.rh.below b5)
  have X5 := hide (X4.below b5)
  have B5 := hide (B4.trans (b5.mono B4.size))
  have y0 := xx.c2.1
  have y1 := xx.c2.2
  clear X4 B4 d4 c4 b5 xx hn2 X3 B3 D3 TK
  go_wp2_with fail
  refine (l14Own_calls _ _ X Y _ RF5.out RH5.out SM.out.1 SM.out.2).mono ?_
  rintro e w7 ⟨f7, h7, rfl, d7, b7⟩
  have X7 := X5.out.below b7
  obtain ⟨af7, cf7, ah7, ch7, rfl, rfl⟩ := d7.sl
  obtain ⟨n1, hn1⟩ : ∃ n, n = X.length := ⟨_, rfl⟩
  obtain ⟨n2, hn2⟩ : ∃ n, n = Y.length := ⟨_, rfl⟩
  rw [← hn1, ← hn2] at d7 ⊢
  have e0 := X7.c2.1
  have e1 := X7.c2.2
  have q0 := X7.frozen 0
  have q1 := X7.frozen 1
  have lt5 := X5.out.lt
  have g8 := grown_tr (grown_setCell w7 (w.heap.size + 1) 0 (.slice af7 n1 cf7)) (grown_setCell _ (w.heap.size + 1) 1 (.slice ah7 n2 ch7))
  have Z8 := hide ((X7.set 0 (.slice af7 n1 cf7)).set 1 (.slice ah7 n2 ch7))
  have B7 := B5.out.trans (b7.mono B5.out.size)
  have D8 := hide ((d7.wider (lo' := w.heap.size + 2) (by omega) (Nat.le_refl _)).chg (Chg.ofGrown (lo := w.heap.size + 1) (hi := w.heap.size + 2) g8 (fun k hk => by cases hk; omega)) (.inr (Nat.le_refl _)))
  have G8 := hide (B7.grown g8 B7.size (fun j hj => by cases hj; omega))
  have S8 := hide g8.size
  clear X7 B7 g8 d7 b7 hn1 hn2 X5 B5 lt5 RF5 RH5 y0 y1
  go_wp2
  exact bodyPost_ret (res_rm2 rfl _ _ (w.heap.size + 1) _ _ (0, 0) rfl Z8.out) rfl ⟨_, _, rfl, D8.out.wider (by omega) S8.out, G8.out⟩
end Go.Proofs.Ytjffjoednmlkiaa
