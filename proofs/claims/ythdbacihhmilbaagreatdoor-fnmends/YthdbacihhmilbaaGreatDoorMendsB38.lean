/-
  A stripe mended: which sectors are written again, what is held then, and the program's withoutBad. MendStripe of the program, at every disk and numbers.
-/
import Derived.Test.YthdbacihhmilbaaGreatDoorMendsB31
import Derived.Test.YthdbacihhmilbaaGreatDoorMendsB37
import Derived.Test.YthdbacihhmilbaaGreatDoorMendsB23
import Derived.Test.YthdbacihhmilbaaGreatDoorMendsB0
set_option linter.unusedVariables false
set_option maxRecDepth 100000
set_option maxHeartbeats 3200000
set_option linter.unusedSimpArgs false
namespace Go.Proofs.YthdbacihhmilbaaGreatDoor
open Go.RowKit
open Gf (ci nat)
def lfN (B : List Bool) (a : Nat) (os : List Nat) : Nat → List Nat
 | 0 => []
 | j + 1 => if B.getD (a + os.getD j 0) false = true then lfN B a os j else lfN B a os j ++ [os.getD j 0]
theorem lfN_le (B : List Bool) (a : Nat) (os : List Nat) : ∀ j, (lfN B a os j).length ≤ j
 | 0 => Nat.le_refl _
 | j + 1 => by
  have := lfN_le B a os j
  simp only [lfN]
  split
  ·omega
  ·simp; omega
theorem lfN_mem (B : List Bool) (a : Nat) (os : List Nat) : ∀ j x, x ∈ lfN B a os j → B.getD (a + x) false = false ∧ ∃ i, i < j ∧ x = os.getD i 0
 | 0, x, h => by simp [lfN] at h
 | j + 1, x, h => by
  simp only [lfN] at h
  split at h
  ·obtain ⟨h1, i, h2, h3⟩ := lfN_mem B a os j x h
   exact ⟨h1, i, by omega, h3⟩
  ·rename_i hb
   rcases List.mem_append.1 h with h | h
   ·obtain ⟨h1, i, h2, h3⟩ := lfN_mem B a os j x h
    exact ⟨h1, i, by omega, h3⟩
   ·have hx : x = os.getD j 0 := by simpa using h
    refine ⟨?_, j, by omega, hx⟩
    rw [hx]
    cases hh : B.getD (a + os.getD j 0) false with
    | true => exact absurd hh hb
    | false => rfl
theorem getD_in (l : List Nat) (j : Nat) (h : j < l.length) : l.getD j 0 ∈ l := by
 rw [qg, List.getElem?_eq_getElem h]
 exact List.getElem_mem h
theorem lfN_ok (B : List Bool) (a : Nat) (os : List Nat) (E : Int) (hE : 0 ≤ E ∧ E ≤ 60000) (n : Nat) : wOk B a E (lfN B a os n) (lfN B a os n).length := fun j hj => ⟨hE, (lfN_mem B a os n _ (getD_in _ j hj)).1⟩
theorem lfN_lt (B : List Bool) (a : Nat) (os : List Nat) (n : Nat) (hn : n ≤ os.length) (h : ∀ j, j < os.length → os.getD j 0 < 5) (j : Nat) (hj : j < (lfN B a os n).length) : (lfN B a os n).getD j 0 < 5 := by
 obtain ⟨_, i, h1, h2⟩ := lfN_mem B a os n _ (getD_in _ j hj)
 rw [h2]
 exact h i (by omega)
theorem wrTo_congr (H : List ByteArray) (A : Nat) (E : Int) (m : List (List Nat)) (ks ks' : List Nat) : ∀ n, (∀ j, j < n → ks.getD j 0 = ks'.getD j 0) → wrTo H A E m ks n = wrTo H A E m ks' n
 | 0, _ => rfl
 | n + 1, h => by
  simp only [wrTo]
  rw [wrTo_congr H A E m ks ks' n (fun j hj => h j (by omega)), h n (by omega)]
def mdW (H : List ByteArray) (B : List Bool) (a : Nat) (E : Int) (m : List (List Nat)) (os : List Nat) (j : Nat) : List ByteArray := wrTo H a E m (lfN B a os j) (lfN B a os j).length
theorem mdW_length (H : List ByteArray) (B : List Bool) (a : Nat) (E : Int) (m : List (List Nat)) (os : List Nat) (j : Nat) : (mdW H B a E m os j).length = H.length := wrTo_length _ _ _ _ _ _
theorem lfN_bad {B : List Bool} {a : Nat} {os : List Nat} {j : Nat} (h : B.getD (a + os.getD j 0) false = true) : lfN B a os (j + 1) = lfN B a os j := by simp only [lfN]; rw [if_pos h]
theorem lfN_good {B : List Bool} {a : Nat} {os : List Nat} {j : Nat} (h : B.getD (a + os.getD j 0) false = false) : lfN B a os (j + 1) = lfN B a os j ++ [os.getD j 0] := by simp only [lfN]; rw [if_neg (by rw [h]; decide)]
theorem mdW_bad {H : List ByteArray} {B : List Bool} {a : Nat} {E : Int} {m : List (List Nat)} {os : List Nat} {j : Nat} (h : B.getD (a + os.getD j 0) false = true) : mdW H B a E m os (j + 1) = mdW H B a E m os j := by unfold mdW; rw [lfN_bad h]
theorem mdW_good {H : List ByteArray} {B : List Bool} {a : Nat} {E : Int} {m : List (List Nat)} {os : List Nat} {j : Nat} (h : B.getD (a + os.getD j 0) false = false) :
    mdW H B a E m os (j + 1) = (mdW H B a E m os j).set (a + os.getD j 0) (scT (a + os.getD j 0) E (m.getD (os.getD j 0) [])) := by
 unfold mdW
 rw [lfN_good h, List.length_append]
 generalize lfN B a os j = l
 show (wrTo H a E m (l ++ [os.getD j 0]) l.length).set (a + (l ++ [os.getD j 0]).getD l.length 0) (scT (a + (l ++ [os.getD j 0]).getD l.length 0) E (m.getD ((l ++ [os.getD j 0]).getD l.length 0) [])) = _
 have e1 : (l ++ [os.getD j 0]).getD l.length 0 = os.getD j 0 := by simp [qg]
 have e2 : wrTo H a E m (l ++ [os.getD j 0]) l.length = wrTo H a E m l l.length := wrTo_congr _ _ _ _ _ _ _ (fun i hi => by simp [qg, List.getElem?_append_left hi])
 rw [e1, e2]
def othN (xs : List Pc) : List Nat := nat (othE (xs.map epo) (rtX xs) 5)
theorem ci_nat0 : ∀ l : List Int, (∀ x ∈ l, 0 ≤ x) → ci (nat l) = l
 | [], _ => rfl
 | a :: l, h => by
  show ((a.toNat : Nat) : Int) :: ci (nat l) = a :: l
  rw [ci_nat0 l (fun x hx => h x (List.mem_cons_of_mem _ hx)), Int.toNat_of_nonneg (h a List.mem_cons_self)]
theorem othN_ci (xs : List Pc) : ci (othN xs) = othE (xs.map epo) (rtX xs) 5 := ci_nat0 _ (fun x hx => (pkE_mem _ _ _ x hx).1)
theorem othN_le (xs : List Pc) : (othN xs).length ≤ 5 := by
 unfold othN nat
 rw [List.length_map]
 exact pkE_le _ _ _
theorem othN_lt (xs : List Pc) (j : Nat) (h : j < (othN xs).length) : (othN xs).getD j 0 < 5 := by
 have := getD_in _ j h
 generalize (othN xs).getD j 0 = x at *
 unfold othN nat at this
 obtain ⟨y, hy, rfl⟩ := List.mem_map.1 this
 have := pkE_mem _ _ _ y hy
 omega
def dcN (xs : List Pc) : List (List Nat) := (dcM xs).map nat
theorem dcN_length {xs : List Pc} (h : R16 (dcM xs)) : (dcN xs).length = 5 := by unfold dcN; rw [List.length_map, h.len]
theorem dcN_get {xs : List Pc} (h : R16 (dcM xs)) (i : Nat) (hi : i < 5) : (dcN xs).getD i [] = nat ((dcM xs).getD i []) := by
 unfold dcN
 simp only [qg]
 rw [List.getElem?_map, List.getElem?_eq_getElem (by rw [h.len]; omega)]
 rfl
theorem dcN_ok {xs : List Pc} (h : R16 (dcM xs)) (i : Nat) (hi : i < 5) : ((dcN xs).getD i []).length = 16 ∧ ∀ x ∈ (dcN xs).getD i [], x < 256 := by
 obtain ⟨h1, h2⟩ := h.row i hi
 rw [dcN_get h i hi]
 refine ⟨by unfold nat; rw [List.length_map, h1], ?_⟩
 have h3 := Gf.nat_lt h2
 intro x hx
 obtain ⟨j, hj, rfl⟩ := List.getElem_of_mem hx
 have h2 := h3 j
 rw [qg, List.getElem?_eq_getElem hj, Option.getD_some] at h2
 exact h2
theorem dcN_ci {xs : List Pc} (h : R16 (dcM xs)) : (dcN xs).map ci = dcM xs := by
 unfold dcN
 rw [List.map_map]
 refine (List.map_congr_left (g := id) fun r hr => ?_).trans (List.map_id _)
 obtain ⟨i, hi, rfl⟩ := List.getElem_of_mem hr
 have h2 := (h.row i (by rw [h.len] at hi; exact hi)).2
 rw [qg, List.getElem?_eq_getElem hi] at h2
 exact Gf.ci_nat h2
theorem rtX_le {xs : List Pc} (hok : ∀ k, okP (xs.getD k none)) : rtX xs ≤ 60000 := by
 refine rtE_le _ (fun k => ?_) _
 by_cases hk : k < xs.length
 ·rw [map_getD xs k hk]
  have := hok k
  generalize xs.getD k none = x at *
  cases x with
  | none => show (-1 : Int) ≤ _; decide
  | some y => exact (this y rfl).1.2
 ·rw [qg, List.getElem?_eq_none (by rw [List.length_map]; omega)]
  show (0 : Int) ≤ _
  decide
theorem withoutBad_calls (p h b vk : Value) (B : List Bool) (a : Nat) (os : List Nat) (w : World) (hb : RdZ w b B) (hk : Rd w vk (ci os)) (hl : os.length ≤ 5) (hlt : ∀ j, j < os.length → os.getD j 0 < 5) (ha : a + 5 ≤ B.length) (hB : B.length ≤ 24) :
    Calls Tryz.prog 59 #[.agg #[p, h, b], .int .i64 (a : Int), vk] w fun e w' => ∃ v', e = .returned v' ∧ Own w' w.heap.size v' (ci (lfN B a os os.length)) ∧ Below w.heap.size w w' := by
 have LT := hide hlt
 obtain ⟨W0, hW⟩ : ∃ W0, W0 = w.alloc (.cells #[p, h, b] 26) := ⟨_, rfl⟩
 have b0 : Below w.heap.size w W0 := by rw [hW]; exact below_box _ _
 have bx : BoxAt W0 w.heap.size #[p, h, b] 26 := by rw [hW]; exact BoxAt.new _ _ _
 have RB := hide (hb.below b0)
 have RK := hide (hk.below b0)
 obtain ⟨ab, cb, rfl, mb, _⟩ := hb.sl
 obtain ⟨ak, ck, hvk, _⟩ := hk
 rw [Gf.ci_length] at hvk
 subst hvk
 have BX := hide bx
 have BW := hide b0
 have HW := hide hW
 have OL := hide (lfN_le B a os)
 obtain ⟨lf, hlf⟩ : ∃ lf : Nat → List Nat, lf = lfN B a os := ⟨_, rfl⟩
 have O0 : Hid (lf 0 = []) := by show _ = _; rw [hlf]; rfl
 have OB : Hid (∀ j, B.getD (a + os.getD j 0) false = true → lf (j + 1) = lf j) := fun j hj => by rw [hlf]; exact lfN_bad hj
 have OG : Hid (∀ j, B.getD (a + os.getD j 0) false = false → lf (j + 1) = lf j ++ [os.getD j 0]) := fun j hj => by rw [hlf]; exact lfN_good hj
 rw [← hlf] at OL ⊢
 have OI : Hid ((W0.alloc (.cells #[] 3)).ownsRow W0.heap.size 3 1 (.slice (some ⟨W0.heap.size, 0, none⟩) 0 0) 0 (([] : List Int).map (Value.int .i64))) := by
  show World.ownsRow _ _ _ _ _ _ _
  have := World.ownsRow_lit (base := W0.heap.size) (e := 3) (size := 1) W0 #[] 0 (Nat.le_refl _) (by unfold maxLen; omega) (by simp)
  simpa using this
 have BI := hide (below_box W0 (.cells #[] 3))
 obtain ⟨nb, hnb⟩ : ∃ nb, nb = B.length := ⟨_, rfl⟩
 rw [← hnb] at ha hB mb BX RB HW ⊢
 have NB := hide hnb
 clear hlf b0 bx hW hnb hlt hb
 go_enter Tryz.func59, Tryz.ntmps59
 go_wp2
 rw [← HW.out]
 go_loopw [7, 9, 13] (fun vo _ vi wr => ∃ (k : Nat) (ao : Option Addr) (co : Nat), k ≤ os.length ∧ vi = .int .i64 k ∧ vo = .slice ao (lf k).length co ∧ Own wr W0.heap.size (.slice ao (lf k).length co) (ci (lf k)) ∧ Below W0.heap.size W0 wr) (fun _ _ vi _ => os.length - (intOf vi).toNat)
 case atStart =>
  refine ⟨0, some ⟨W0.heap.size, 0, none⟩, 0, Nat.zero_le _, rfl, ?_, ?_, BI.out⟩
  ·rw [O0.out]
   have := congrArg (fun W : World => W.heap.size) HW.out
   simp only [World.size_alloc] at this
   first | rfl | simp [this]
  ·rw [O0.out]
   exact OI.out
 case round =>
  obtain ⟨k, ao, co, hk, rfl, rfl, ho, hb⟩ := hrel
  have O := hide ho
  have HB := hide hb
  have l1 := OL.out k
  clear ho
  by_cases hlt : k < os.length
  ·obtain ⟨kb, ko, hka, hkc⟩ := (RK.out.below hb).nth k (by rw [Gf.ci_length]; exact hlt)
   subst hka
   rw [Gf.ci_getD] at hkc
   have hz5 := LT.out k hlt
   have hlt' : (k : Int) < (os.length : Int) := by omega
   have SB := hide (OB.out k)
   have SG := hide (OG.out k)
   generalize os.getD k 0 = z at *
   obtain ⟨gb, off, hga, hc, _⟩ := (RB.out.below hb).cell (a + z) (by rw [← NB.out]; omega)
   subst hga
   have E5 : Hid ((a : Int) + (z : Int) = ((a + z : Nat) : Int)) := by show _ = _; omega
   have hi0 : (a : Int) + (z : Int) < (nb : Int) := by omega
   have sx2 := (BX.out.below hb).cell 2
   clear hb
   cases hy : B.getD (a + z) false with
   | true =>
    rw [hy] at hc
    have e1 := hide (SB.out hy)
    go_wp2
    go_roundw
    case rel =>
     refine ⟨k + 1, ao, co, by omega, by go_num, by rw [e1.out], ?_, HB.out⟩
     rw [e1.out]
     exact O.out
    case measure => simp [intOf]; omega
   | false =>
    rw [hy] at hc
    have e1 := hide (SG.out hy)
    have s2 := HB.out.size
    have hcl : (ci (lf k)).length = (lf k).length := Gf.ci_length _
    go_wp2_with (at_builtin; refine wpList_append_int1 rfl _ _ rfl W0.heap.size _ (lf k).length (ci (lf k)) z rfl (ownsRow_below (by have := O.out; unfold Own at this; rw [hcl] at this; exact this) (below_box _ _)) wr.heap.size rfl (World.cell?_alloc_at _ _ _ _ (by simp)) (by omega) (by simp; omega) ?_)
    intro g4 c4 w4 o4 p4 q4 r4
    have HL4 : Hid ((lf (k + 1)).length = (lf k).length + 1) := by show _ = _; rw [e1.out, List.length_append]; rfl
    have O4 : Hid (Own w4 W0.heap.size (.slice (some ⟨g4, 0, none⟩) ((lf k).length + 1) c4) (ci (lf (k + 1)))) := by
     show World.ownsRow _ _ _ _ _ (ci (lf (k + 1))).length _
     rw [Gf.ci_length, HL4.out, e1.out]
     show World.ownsRow _ _ _ _ _ _ ((ci (lf k ++ [z])).map _)
     have : ci (lf k ++ [z]) = ci (lf k) ++ [(z : Int)] := by simp [ci]
     rw [this, List.map_append]
     exact o4
    have B4 : Hid (Below W0.heap.size W0 w4) := (HB.out.alloc HB.out.size _).grown p4 (by simp; omega) (fun z hz => (World.ownsRow.lt O.out z hz).1)
    clear o4 p4 q4 r4 O
    go_wp2
    go_roundw
    case rel =>
     refine ⟨k + 1, some ⟨g4, 0, none⟩, c4, by omega, by go_num, by rw [HL4.out], ?_, B4.out⟩
     rw [HL4.out]
     exact O4.out
    case measure => simp [intOf]; omega
  ·obtain rfl : k = os.length := by omega
   clear hb
   go_wp2
   go_ret
   exact ⟨_, rfl, Own.mono O.out BW.out.size, BW.out.trans (HB.out.mono BW.out.size)⟩
open Gf (ci nat)
def mdL (B : List Bool) (A : Int) (xs : List Pc) : List Nat := lfN B A.toNat (othN xs) (othN xs).length
def mdH (H : List ByteArray) (B : List Bool) (A : Int) (xs : List Pc) : List ByteArray := mdW H B A.toNat (rtX xs) (dcN xs) (othN xs) (othN xs).length
def mdC (ok : Bool) (B : List Bool) (A : Int) (xs : List Pc) : Int := if ok = true then ((mdL B A xs).length : Int) else 0
theorem mendStripe_calls (p h b : Value) (P H : List ByteArray) (B : List Bool) (A least : Int) (ok : Bool) (w : World) (hT : Gf.Tab w) (hok : ok = true ↔ ((gkP P H B ∧ ftP P A) ∧ dcOk (rsX P H B least A))) (hwf : (Lit.int .i64 A).wf = true) (hp : RdT w p P) (hh : RdT w h H) (hb : RdZ w b B) :
    Calls Tryz.prog 19 #[.agg #[p, h, b], .int .i64 A, .int .i64 least] w fun e w' => ∃ p' h' b', e = .returned (.tuple #[.agg #[p', h', b'], .int .i64 (mdC ok B A (rsX P H B least A)), .bool ok]) ∧ DskV w' w.heap.size w'.heap.size p' h' b' (ifT ok P) (ifT ok (mdH H B A (rsX P H B least A))) (ifT ok B) ∧ Below w.heap.size w w' := by
 have T := hide hT
 have RP := hide hp
 have RH := hide hh
 have RB := hide hb
 obtain ⟨f, hf⟩ := ft_bool P H B A
 have HF := hide hf
 have C1 := hide (fun W h1 h2 h3 => liesOn_calls p h b P H B A f W hf hwf h1 h2 h3)
 have A0 : Hid (Hand w ((w.alloc (.cells #[p, h, b] 26)).alloc (.cells nil3 26)) [TBox (w.heap.size + 1) nil3 26, TBox w.heap.size #[p, h, b] 26]) := by
  show Hand _ _ _
  have := ((Hand.start w).box #[p, h, b] 26).box nil3 26
  simpa using this
 obtain ⟨c0, c1, c2⟩ := (A0.out.atBox 1 rfl).c3
 clear hp hh hb hT hf hwf
 cases f with
 | false =>
  have okf : ok = false := by
   cases ok with
   | false => rfl
   | true => have := HF.out.2 (hok.1 rfl).1; simp at this
  subst okf
  clear hok HF
  show Calls _ _ _ _ fun e w' => ∃ p' h' b', e = .returned (.tuple #[.agg #[p', h', b'], .int .i64 0, .bool false]) ∧ DskV w' w.heap.size w'.heap.size p' h' b' [] [] [] ∧ Below w.heap.size w w'
  go_enter Tryz.func19, Tryz.ntmps19
  go_wp2_with fail
  refine (C1.out _ (RP.out.below A0.out.below) (RH.out.below A0.out.below) (RB.out.below A0.out.below)).mono ?_
  rintro e w1 ⟨rfl, q⟩
  have A1 := hide (A0.out.step q)
  clear q A0 c0 c1 c2
  obtain ⟨d0, d1, d2⟩ := (A1.out.atBox 0 rfl).c3
  have g0 := (A1.out.atBox 0 rfl).frozen 0
  have g1 := (A1.out.atBox 0 rfl).frozen 1
  have g2 := (A1.out.atBox 0 rfl).frozen 2
  have AZ := hide (A1.out.store3 0 rfl (.slice none 0 0) (.slice none 0 0) (.slice none 0 0))
  go_wp2
  exact bodyPost_ret (res_dsk3 rfl _ _ (w.heap.size + 1) _ _ _ (0, 0) rfl (AZ.out.atBox 0 rfl)) rfl ⟨_, _, _, rfl, DskV.nil _ _ _, AZ.out.below⟩
 | true =>
 have GK := hide (HF.out.1 rfl).1
 have FT := hide (HF.out.1 rfl).2
 have HD : Hid (ok = true ↔ dcOk (rsX P H B least A)) := by show _ ↔ _; rw [hok]; exact ⟨fun h => h.2, fun h => ⟨HF.out.1 rfl, h⟩⟩
 obtain ⟨a, rfl⟩ : ∃ a : Nat, A = (a : Int) := ⟨A.toNat, by have := FT.out.1; omega⟩
 have ha5 : a + 5 ≤ P.length := by have := FT.out.2; omega
 have n24 : P.length ≤ 24 := GK.out.1.2
 have ex : rsX P H B least (a : Int) = skL P H B least a := by unfold rsX; rw [Int.toNat_natCast]
 rw [ex] at HD
 rw [ex]
 have C2' : Hid (∀ W, RdT W p P → RdT W h H → RdZ W b B → Calls Tryz.prog 47 #[.agg #[p, h, b], .int .i64 (a : Int), .int .i64 least] W fun e w' => ∃ v, e = .returned (.agg #[v, .int .i64 (rtX (skL P H B least a))]) ∧ OwnP w' W.heap.size v (skL P H B least a) ∧ Below W.heap.size W w') := fun W h1 h2 h3 => findStripe_calls p h b P H B a least W GK.out ha5 h1 h2 h3
 obtain ⟨xs, hxs⟩ : ∃ xs, xs = skL P H B least a := ⟨_, rfl⟩
 have xl : xs.length = 5 := by rw [hxs, skL_length]
 have xok : ∀ k, okP (xs.getD k none) := by rw [hxs]; exact skL_ok _ _ _ _ _
 rw [← hxs] at C2' HD ⊢
 have C3 := hide (fun W v hT hv => decodeStripe_calls v xs ok W hT hv xok xl HD.out)
 have C4 := hide (fun W v hv => othersIn_calls v xs (rtX xs) W hv xok (by rw [xl]; omega))
 rw [xl, ← othN_ci] at C4
 have LB5 : a + 5 ≤ B.length := by rw [GK.out.2.2.1]; exact ha5
 have LB24 : B.length ≤ 24 := by rw [GK.out.2.2.1]; exact n24
 have C5 := hide (fun W v h1 h2 => withoutBad_calls p h b v B a (othN xs) W h1 h2 (othN_le xs) (othN_lt xs) LB5 LB24)
 have C6 : Hid (ok = true → ∀ W vm vk, RdM W vm (dcM xs) → Rd W vk (ci (lfN B a (othN xs) (othN xs).length)) → RdT W p P → RdT W h H → RdZ W b B → Calls Tryz.prog 37 #[.agg #[p, h, b], .int .i64 (a : Int), .int .i64 (rtX xs), vm, vk] W fun e w' => ∃ p' h' b', e = .returned (.tuple #[.agg #[p', h', b'], .bool true]) ∧ DskV w' W.heap.size w'.heap.size p' h' b' P (mdW H B a (rtX xs) (dcN xs) (othN xs) (othN xs).length) B ∧ Below W.heap.size W w') := fun e W vm vk h1 h2 h3 h4 h5 => by
  have hr := (HD.out.1 e).1
  have r16 := (tf_r16 (dc_tf xl xok hr)).1
  have hE : 0 ≤ rtX xs ∧ rtX xs ≤ 60000 := ⟨hr, rtX_le xok⟩
  rw [← dcN_ci r16] at h1
  exact writePieces_calls p h b P H B a (rtX xs) vm (dcN xs) vk (lfN B a (othN xs) (othN xs).length) true W GK.out ha5 h1 (dcN_length r16) (dcN_ok r16) h2 (by have := lfN_le B a (othN xs) (othN xs).length; have := othN_le xs; omega) (lfN_lt B a (othN xs) _ (Nat.le_refl _) (othN_lt xs)) ⟨fun _ => lfN_ok B a (othN xs) _ hE _, fun _ => rfl⟩ h3 h4 h5
 have EL : Hid (mdL B (a : Int) xs = lfN B a (othN xs) (othN xs).length) := by show lfN B (a : Int).toNat _ _ = _; rw [Int.toNat_natCast]
 have EH : Hid (mdH H B (a : Int) xs = mdW H B a (rtX xs) (dcN xs) (othN xs) (othN xs).length) := by show mdW H B (a : Int).toNat _ _ _ _ = _; rw [Int.toNat_natCast]
 unfold mdC
 rw [EL.out, EH.out]
 have LL := lfN_le B a (othN xs) (othN xs).length
 have OL := othN_le xs
 generalize lfN B a (othN xs) (othN xs).length = ll at *
 generalize mdW H B a (rtX xs) (dcN xs) (othN xs) (othN xs).length = hw at *
 generalize othN xs = on at *
 generalize rtX xs = r at *
 generalize dcM xs = dm at *
 generalize dcT ok xs = tt at *
 clear ex hok HD HF FT hxs xok xl EL EH LB5 LB24
 go_enter Tryz.func19, Tryz.ntmps19
 go_wp2_with fail
 refine (C1.out _ (RP.out.below A0.out.below) (RH.out.below A0.out.below) (RB.out.below A0.out.below)).mono ?_
 rintro e w1 ⟨rfl, q⟩
 have A1 := hide (A0.out.step q)
 clear q A0 c0 c1 c2
 obtain ⟨c0, c1, c2⟩ := (A1.out.atBox 1 rfl).c3
 go_wp2_with fail
 refine (C2'.out _ (RP.out.below A1.out.below) (RH.out.below A1.out.below) (RB.out.below A1.out.below)).mono ?_
 rintro e w2 ⟨v2, rfl, o2, q⟩
 obtain ⟨av, cv, hv2⟩ := row_slice o2
 subst hv2
 have R2 := hide (OwnP.rd o2)
 have A2 := hide ((A1.out.step q).box #[.slice av xs.length cv, .int .i64 r] 83)
 have R2' := hide (R2.out.below (below_box w2 (.cells #[.slice av xs.length cv, .int .i64 r] 83)))
 clear q o2 A1 c0 c1 c2 R2
 have c0 : World.cell? _ ⟨w2.heap.size, 0, none⟩ = some (.slice av xs.length cv) := (A2.out.atBox 0 rfl).cell 0
 have c1 : World.cell? _ ⟨w2.heap.size, 1, none⟩ = some (.int .i64 r) := (A2.out.atBox 0 rfl).cell 1
 go_wp2_with fail
 refine (C3.out _ _ (Gf.Tab.below T.out A2.out.below) R2'.out).mono ?_
 rintro e w3 ⟨v3, rfl, r3, q⟩
 have A3 := hide (A2.out.step q)
 have R3 := hide (R2'.out.below q)
 have RM := hide r3
 clear q A2 R2' c0 c1 r3
 cases ok with
 | false =>
  show _
  obtain ⟨d0, d1, d2⟩ := (A3.out.atBox 1 rfl).c3
  have g0 := (A3.out.atBox 1 rfl).frozen 0
  have g1 := (A3.out.atBox 1 rfl).frozen 1
  have g2 := (A3.out.atBox 1 rfl).frozen 2
  have AZ := hide (A3.out.store3 1 rfl (.slice none 0 0) (.slice none 0 0) (.slice none 0 0))
  go_wp2
  exact bodyPost_ret (res_dsk3 rfl _ _ (w.heap.size + 1) _ _ _ (0, 0) rfl (AZ.out.atBox 1 rfl)) rfl ⟨_, _, _, rfl, DskV.nil _ _ _, AZ.out.below⟩
 | true =>
  have C6' := hide (C6.out rfl)
  have RM' : Hid (RdM w3 v3 dm) := RM.out
  clear RM C6
  go_wp2
  have F : Hid (∀ w', Below w3.heap.size w3 w' → (w'.cell? ⟨w.heap.size, 0, none⟩ = some p ∧ w'.cell? ⟨w.heap.size, 1, none⟩ = some h ∧ w'.cell? ⟨w.heap.size, 2, none⟩ = some b) ∧ (w'.cell? ⟨w2.heap.size, 0, none⟩ = some (.slice av xs.length cv) ∧ w'.cell? ⟨w2.heap.size, 1, none⟩ = some (.int .i64 r))) :=
   fun w' hb => ⟨((A3.out.step hb).atBox 2 rfl).c3, ((A3.out.step hb).atBox 0 rfl).cell 0, ((A3.out.step hb).atBox 0 rfl).cell 1⟩
  go_region_held3 (fun w' => (w'.cell? ⟨w.heap.size, 0, none⟩ = some p ∧ w'.cell? ⟨w.heap.size, 1, none⟩ = some h ∧ w'.cell? ⟨w.heap.size, 2, none⟩ = some b) ∧ (w'.cell? ⟨w2.heap.size, 0, none⟩ = some (.slice av xs.length cv) ∧ w'.cell? ⟨w2.heap.size, 1, none⟩ = some (.int .i64 r))) (first | exact F.out _ (Below.refl _ _).drew | exact F.out _ B2.out | exact F.out _ B1.out)
   ((first | (go_at_call 59; refine (C5.out _ _ (RB.out.below (A3.out.step B1.out).below) O4.out.rd).mono ?_; rintro e' wr7 ⟨v5, rfl, o5, b7⟩; have O5 := hide o5; have B2 := hide (B1.out.trans (b7.mono B1.out.size)); clear b7 o5) | (go_at_call 49; refine (C4.out _ _ (R3.out.below (Below.refl _ _).drew)).mono ?_; rintro e' wr6 ⟨v4, rfl, o4, b6⟩; have O4 := hide o4; have B1 := hide ((Below.refl w3.heap.size w3).drew.trans b6); clear b6 o4)))
  have A4 := hide (A3.out.step B2.out)
  have RM4 := hide (RM'.out.below B2.out)
  obtain ⟨a5, c5, hv5⟩ := row_slice O5.out
  rw [Gf.ci_length] at hv5
  subst hv5
  clear A3 F B1 B2 R3 RM' O4
  obtain ⟨c0, c1, c2⟩ := (A4.out.atBox 2 rfl).c3
  have f1 : World.cell? _ ⟨w2.heap.size, 1, none⟩ = some (.int .i64 r) := (A4.out.atBox 0 rfl).cell 1
  go_wp2_with fail
  refine (C6'.out _ _ _ RM4.out O5.out.rd (RP.out.below A4.out.below) (RH.out.below A4.out.below) (RB.out.below A4.out.below)).mono ?_
  rintro e w5 ⟨p5, h5, b5, rfl, d5, q⟩
  obtain ⟨ap5, cp5, ah5, ch5, ab5, cb5, rfl, rfl, rfl⟩ := d5.sl
  have A5 := hide ((A4.out.add q (TDsk.st _ _ _ _ _ _) d5).box #[.slice ap5 P.length cp5, .slice ah5 hw.length ch5, .slice ab5 B.length cb5] 26)
  clear q d5 A4 c0 c1 c2 f1 RM4 O5
  obtain ⟨c0, c1, c2⟩ := (A5.out.atBox 0 rfl).c3
  obtain ⟨d0, d1, d2⟩ := (A5.out.atBox 3 rfl).c3
  have g0 := (A5.out.atBox 3 rfl).frozen 0
  have g1 := (A5.out.atBox 3 rfl).frozen 1
  have g2 := (A5.out.atBox 3 rfl).frozen 2
  have AZ := hide (A5.out.store3 3 rfl (.slice ap5 P.length cp5) (.slice ah5 hw.length ch5) (.slice ab5 B.length cb5))
  go_wp2
  obtain ⟨lo, hi, d3, lw, hw3, _⟩ := AZ.out.open 1 rfl
  have D3 : DskV _ lo hi (.slice ap5 P.length cp5) (.slice ah5 hw.length ch5) (.slice ab5 B.length cb5) P hw B := d3
  exact bodyPost_ret (res_dsk3 rfl _ _ (w.heap.size + 1) _ _ _ (0, 0) rfl (AZ.out.atBox 3 rfl)) rfl ⟨_, _, _, rfl, D3.wider lw hw3, AZ.out.below⟩
open Gf (ci nat)
theorem wrTo_hit (H : List ByteArray) (A : Nat) (E : Int) (m : List (List Nat)) (ks : List Nat) : ∀ n x, x < H.length → (∃ j, j < n ∧ A + ks.getD j 0 = x) → (wrTo H A E m ks n).getD x ⟨#[]⟩ = scT x E (m.getD (x - A) [])
 | 0, x, _, ⟨j, hj, _⟩ => absurd hj (Nat.not_lt_zero _)
 | n + 1, x, hx, h => by
  simp only [wrTo]
  by_cases e : A + ks.getD n 0 = x
  ·have e2 : x - A = ks.getD n 0 := by omega
   rw [e, e2, qg, List.getElem?_set_self (by rw [wrTo_length]; exact hx)]
   rfl
  ·rw [qg, List.getElem?_set_ne e, ← qg]
   obtain ⟨j, hj, h2⟩ := h
   refine wrTo_hit H A E m ks n x hx ⟨j, ?_, h2⟩
   have : j ≠ n := fun e2 => e (by rw [← e2]; exact h2)
   omega
theorem wrTo_miss (H : List ByteArray) (A : Nat) (E : Int) (m : List (List Nat)) (ks : List Nat) : ∀ n x, (∀ j, j < n → A + ks.getD j 0 ≠ x) → (wrTo H A E m ks n).getD x ⟨#[]⟩ = H.getD x ⟨#[]⟩
 | 0, _, _ => rfl
 | n + 1, x, h => by
  simp only [wrTo]
  rw [qg, List.getElem?_set_ne (h n (by omega)), ← qg]
  exact wrTo_miss H A E m ks n x (fun j hj => h j (by omega))
theorem lfN_has (B : List Bool) (a : Nat) (os : List Nat) : ∀ j i, i < j → B.getD (a + os.getD i 0) false = false → os.getD i 0 ∈ lfN B a os j
 | 0, i, h, _ => absurd h (Nat.not_lt_zero _)
 | j + 1, i, h, hb => by
  by_cases e : i = j
  ·subst e
   rw [lfN_good hb]
   exact List.mem_append_right _ (List.mem_singleton.2 rfl)
  ·have := lfN_has B a os j i (by omega) hb
   simp only [lfN]
   split
   ·exact this
   ·exact List.mem_append_left _ this
theorem pkE_has (f : Int → Bool) (es : List Int) : ∀ k i, i < k → f (es.getD i 0) = true → ((i : Nat) : Int) ∈ pkE f es k
 | 0, i, h, _ => absurd h (Nat.not_lt_zero _)
 | k + 1, i, h, hf => by
  simp only [pkE]
  by_cases e : i = k
  ·subst e
   rw [if_pos hf]
   exact List.mem_append_right _ (List.mem_singleton.2 rfl)
  ·have := pkE_has f es k i (by omega) hf
   split
   ·exact List.mem_append_left _ this
   ·exact this
theorem pkE_pick (f : Int → Bool) (es : List Int) : ∀ k x, x ∈ pkE f es k → f (es.getD x.toNat 0) = true
 | 0, x, h => by simp [pkE] at h
 | k + 1, x, h => by
  simp only [pkE] at h
  split at h
  ·rename_i hf
   rcases List.mem_append.1 h with h | h
   ·exact pkE_pick f es k x h
   ·have hx : x = (k : Int) := by simpa using h
    rw [hx, Int.toNat_natCast]
    exact hf
  ·exact pkE_pick f es k x h
theorem othN_mem {xs : List Pc} (hl : xs.length = 5) (k : Nat) : k ∈ othN xs ↔ k < 5 ∧ isE (rtX xs) (epo (xs.getD k none)) = false := by
 unfold othN nat
 rw [List.mem_map]
 constructor
 ·rintro ⟨y, hy, rfl⟩
  have h1 := pkE_mem _ _ _ y hy
  have h2 := pkE_pick _ _ _ y hy
  rw [map_getD xs _ (by omega)] at h2
  exact ⟨by omega, by simpa using h2⟩
 ·rintro ⟨h1, h2⟩
  refine ⟨(k : Int), pkE_has _ _ 5 k h1 ?_, Int.toNat_natCast k⟩
  rw [map_getD xs k (by omega), h2]
  rfl
theorem sk_sc {P H : List ByteArray} {B : List Bool} {least : Int} {a : Nat} {r : Int} {row : List Nat} (hb : B.getD a false = false) (ha : a ≤ 24) (hr : 0 ≤ r ∧ r ≤ 60000) (hl : least ≤ r) (hn : row.length = 16) (hH : H.getD a ⟨#[]⟩ = scT a r row) : sk P H B least a = some (r, ofN row) := by
 have g := sc_good (A := a) (E := r) (row := row) (by omega) hr hn
 have hg : goodF 2 (a : Int) r (ofN row).size := ⟨⟨by omega, by omega, by omega⟩, hr, by rw [ofN_size]; omega⟩
 have e1 : rsT P H a = scT a r row := by
  unfold rsT
  rw [hH, if_neg (by rw [g.2]; omega)]
 have e2 : rdR (scT a r row) = ⟨2, (a : Int), r, ofN row, 0, true⟩ := rd_fr hg
 have e3 : ckR (scT a r row) 2 a least = ⟨2, (a : Int), r, ofN row, 0, true⟩ := by
  unfold ckR
  rw [e2]
  simp [hl]
 unfold sk
 rw [if_neg (by rw [hb]; decide), e1, e3]
 rw [if_pos ⟨rfl, by rw [ofN_size]; exact hn⟩]
theorem sk_least {P H : List ByteArray} {B : List Bool} {least : Int} {a : Nat} {y : Int × ByteArray} (h : sk P H B least a = some y) : least ≤ y.1 := by
 unfold sk at h
 split at h
 ·simp at h
 ·split at h
  ·rename_i hc
   have hy : y = ((ckR (rsT P H a) 2 a least).E, (ckR (rsT P H a) 2 a least).B) := by simpa using h.symm
   rw [hy]
   show least ≤ (ckR (rsT P H a) 2 a least).E
   have h1 := hc.1
   unfold ckR at h1 ⊢
   split at h1
   ·rename_i h2
    rw [if_pos h2]
    split at h1
    ·rename_i h3
     rw [if_pos h3]
     split at h1
     ·rename_i h4
      rw [if_pos h4]
      split at h1
      ·rename_i h5
       rw [if_pos h5]
       exact h5
      ·simp [frNo] at h1
     ·simp [frNo] at h1
    ·simp [frNo] at h1
   ·simp [frNo] at h1
  ·simp at h
theorem cntE_some (es : List Int) (r : Int) : ∀ n, 0 < cntE es r n → ∃ k, k < n ∧ es.getD k 0 = r
 | 0, h => by simp [cntE] at h
 | n + 1, h => by
  by_cases e : es.getD n 0 = r
  ·exact ⟨n, by omega, e⟩
  ·simp only [cntE, if_neg e] at h
   obtain ⟨k, h1, h2⟩ := cntE_some es r n (by omega)
   exact ⟨k, by omega, h2⟩
theorem rt_least {P H : List ByteArray} {B : List Bool} {least : Int} {a : Nat} (hr : 0 ≤ rtX (skL P H B least a)) : least ≤ rtX (skL P H B least a) := by
 have h3 := rtE_has _ 5 hr
 obtain ⟨k, hk, e⟩ := cntE_some ((skL P H B least a).map epo) (rtX (skL P H B least a)) _ (Nat.lt_of_lt_of_le (by omega) h3)
 rw [List.length_map, skL_length] at hk
 rw [map_getD _ k (by rw [skL_length]; exact hk), skL_get _ _ _ _ _ _ hk] at e
 generalize hx : sk P H B least (a + k) = x at *
 cases x with
 | none =>
  have : (-1 : Int) = rtX (skL P H B least a) := e
  omega
 | some y =>
  have e' : y.1 = rtX (skL P H B least a) := e
  rw [← e']
  exact sk_least hx
theorem sk_mended {P H : List ByteArray} {B : List Bool} {least : Int} {a : Nat} (hH : H.length = P.length) (ha5 : a + 5 ≤ P.length) (n24 : P.length ≤ 24) (hr : 0 ≤ rtX (skL P H B least a)) (k : Nat) (hk : k < 5) :
    (skL P (mdH H B (a : Int) (skL P H B least a)) B least a).getD k none =
     if B.getD (a + k) false = true then none
     else if isE (rtX (skL P H B least a)) (epo ((skL P H B least a).getD k none)) = true then (skL P H B least a).getD k none
     else some (rtX (skL P H B least a), ofN ((dcN (skL P H B least a)).getD k [])) := by
 have xl := skL_length P H B least a
 have xok := skL_ok P H B least a
 have r16 := (tf_r16 (dc_tf xl xok hr)).1
 have hE : 0 ≤ rtX (skL P H B least a) ∧ rtX (skL P H B least a) ≤ 60000 := ⟨hr, rtX_le xok⟩
 have hle := rt_least hr
 have hmem := othN_mem xl k
 have hsk := skL_get P H B least a k hk
 have eM : mdH H B (a : Int) (skL P H B least a) = mdW H B a (rtX (skL P H B least a)) (dcN (skL P H B least a)) (othN (skL P H B least a)) (othN (skL P H B least a)).length := by show mdW H B (a : Int).toNat _ _ _ _ = _; rw [Int.toNat_natCast]
 rw [eM, skL_get _ _ _ _ _ _ hk]
 obtain ⟨n1, n2⟩ := dcN_ok r16 k hk
 generalize dcN (skL P H B least a) = m at *
 generalize rtX (skL P H B least a) = r at *
 generalize othN (skL P H B least a) = os at *
 by_cases hb : B.getD (a + k) false = true
 ·rw [if_pos hb]
  unfold sk
  rw [if_pos hb]
 ·have hb' : B.getD (a + k) false = false := by
    cases h : B.getD (a + k) false with
    | true => exact absurd h hb
    | false => rfl
  rw [if_neg hb]
  by_cases hi : isE r (epo ((skL P H B least a).getD k none)) = true
  ·rw [if_pos hi]
   have hno : (mdW H B a r m os os.length).getD (a + k) ⟨#[]⟩ = H.getD (a + k) ⟨#[]⟩ := by
    refine wrTo_miss _ _ _ _ _ _ _ (fun j hj e => ?_)
    have ek : (lfN B a os os.length).getD j 0 = k := by omega
    obtain ⟨_, i, h1, h2⟩ := lfN_mem B a os os.length _ (getD_in _ j hj)
    rw [ek] at h2
    have : k ∈ os := by rw [h2]; exact getD_in os i h1
    have := (hmem.1 this).2
    rw [hi] at this
    simp at this
   rw [hsk]
   have : rsT P (mdW H B a r m os os.length) (a + k) = rsT P H (a + k) := by unfold rsT; rw [hno]
   unfold sk
   rw [this]
  ·rw [if_neg hi]
   have hi' : isE r (epo ((skL P H B least a).getD k none)) = false := by
    cases h : isE r (epo ((skL P H B least a).getD k none)) with
    | true => exact absurd h hi
    | false => rfl
   have hin : k ∈ os := hmem.2 ⟨hk, hi'⟩
   obtain ⟨i, hi1, hi2⟩ := List.getElem_of_mem hin
   have hi3 : os.getD i 0 = k := by rw [qg, List.getElem?_eq_getElem hi1]; exact hi2
   have hl := lfN_has B a os os.length i hi1 (by rw [hi3]; exact hb')
   rw [hi3] at hl
   obtain ⟨j, hj1, hj2⟩ := List.getElem_of_mem hl
   have hj3 : (lfN B a os os.length).getD j 0 = k := by rw [qg, List.getElem?_eq_getElem hj1]; exact hj2
   refine sk_sc hb' (by omega) hE hle n1 ?_
   have := wrTo_hit H a r m (lfN B a os os.length) (lfN B a os os.length).length (a + k) (by omega) ⟨j, hj1, by rw [hj3]⟩
   rw [Nat.add_sub_cancel_left] at this
   exact this
open Gf (ci nat ciM Sh AllLt dotTo solN identN colN colL invTo joinN clr opM hOf fOf piv)
namespace Gf
theorem sh_col {V : List Nat} {n : Nat} (hl : V.length = n) (hV : AllLt V) : Sh (colN V) n 1 := by
 refine ⟨by simp [Gf.colN, hl], fun i hi => ?_, fun i hi j => ?_⟩
 ·simp [Gf.colN, qg, hl, hi]
 ·have e : (colN V).getD i [] = [V.getD i 0] := by simp [Gf.colN, qg, hl, hi]
  rw [e]
  cases j with
  | zero => exact hV i
  | succ j => simp
theorem dot_app {r s z y : List Nat} {n : Nat} (hr : r.length = n) (hz : z.length = n) : ∀ m, dotTo (r ++ s) (z ++ y) (n + m) = dotTo r z n ^^^ dotTo s y m := by
 have low : ∀ k, k ≤ n → dotTo (r ++ s) (z ++ y) k = dotTo r z k := by
  intro k
  induction k with
  | zero => intro _; rfl
  | succ k ih => intro h; rw [dotTo, dotTo, ih (by omega), getD_app_left _ _ _ (by omega), getD_app_left _ _ _ (by omega)]
 intro m
 induction m with
 | zero => rw [Nat.add_zero, low n (Nat.le_refl _)]; simp [dotTo]
 | succ m ih =>
  have e1 : (r ++ s).getD (n + m) 0 = s.getD m 0 := by rw [qg, List.getElem?_append_right (by omega), hr, Nat.add_sub_cancel_left, ← qg]
  have e2 : (z ++ y).getD (n + m) 0 = y.getD m 0 := by rw [qg, List.getElem?_append_right (by omega), hz, Nat.add_sub_cancel_left, ← qg]
  rw [← Nat.add_assoc, dotTo, ih, dotTo, e1, e2, Nat.xor_assoc]
theorem pair_kern {A S : List (List Nat)} {n c d : Nat} {z : List Nat} (ha : Sh A n c) (hs : Sh S n d) (hz : AllLt z) : ∀ k, k ≤ n → ∀ q, invTo A S k = some q → (∀ i, i < n → dotTo ((joinN q.1 q.2).getD i []) z (c + d) = 0) → ∀ i, i < n → dotTo ((joinN A S).getD i []) z (c + d) = 0 := by
 intro k
 induction k with
 | zero => intro _ q h hh; simp only [invTo, Option.some.injEq] at h; subst h; exact hh
 | succ k ih =>
  intro hk q h hh
  rw [invTo] at h
  cases e : invTo A S k with
  | none => rw [e] at h; simp at h
  | some r =>
   obtain ⟨h1, h2⟩ := invTo_sh ha hs k (by omega) r e
   rw [e] at h
   simp only [] at h
   cases e2 : piv r.1 k k with
   | none => rw [e2] at h; simp at h
   | some p =>
    rw [e2] at h
    simp only [Option.some.injEq] at h
    subst h
    obtain ⟨_, p2, p3⟩ := piv_facts e2
    rw [h1.len] at p2
    have hj := h1.join h2
    refine ih (by omega) r e (op_kern (at_ := k) (p := p) (x := hOf r.1 k p) (fs := fOf r.1 k k p) hj (by omega) p2 (h1.elt p k) p3 (fun i => (h1.swap k p (by omega) p2).elt i k) hz ?_)
    rw [op_join h1 h2 (by omega) p2]
    exact hh
theorem dot_identRow {r z : List Nat} {n i : Nat} (hz : AllLt z) (hU : ∀ j, j < n → r.getD j 0 = if i = j then 1 else 0) : ∀ k, k ≤ n → dotTo r z k = if i < k then z.getD i 0 else 0 := by
 intro k
 induction k with
 | zero => intro _; simp [dotTo]
 | succ k ih =>
  intro h
  rw [dotTo, ih (by omega), hU k (by omega)]
  by_cases e : i = k
  ·subst e; rw [if_pos rfl, one_mul _ (hz i), if_neg (by omega), if_pos (by omega), Nat.zero_xor]
  ·rw [if_neg e, zero_mul (hz k), Nat.xor_zero]
   by_cases h2 : i < k
   ·rw [if_pos h2, if_pos (by omega)]
   ·rw [if_neg h2, if_neg (by omega)]
theorem solve_right {A : List (List Nat)} {V : List Nat} {n : Nat} (ha : Sh A n n) (hV : AllLt V) (hl : V.length = n) (hok : (solN A (colN V)).2 = true) :
    ∀ i, i < n → dotTo (A.getD i []) ((solN A (colN V)).1.map fun r => r.getD 0 0) n = V.getD i 0 := by
 have hc : Sh (colN V) n 1 := sh_col hl hV
 cases e : invTo A (colN V) n with
 | none => unfold solN at hok; rw [ha.len, e] at hok; cases hok
 | some q =>
  obtain ⟨h1, h2⟩ := invTo_sh ha hc n (Nat.le_refl _) q e
  have hs : solN A (colN V) = (q.2, true) := by unfold solN; rw [ha.len, e]
  rw [hs]
  simp only []
  obtain ⟨s, hsd⟩ : ∃ s, s = q.2.map fun r => r.getD 0 0 := ⟨_, rfl⟩
  rw [← hsd]
  have sl : s.length = n := by rw [hsd, List.length_map, h2.len]
  have sg : ∀ i, i < n → s.getD i 0 = (q.2.getD i []).getD 0 0 := fun i hi => by rw [hsd, map_get _ _ _ _ (by rw [h2.len]; exact hi)]
  have slt : AllLt s := by
   intro j
   by_cases hj : j < n
   ·rw [sg j hj]; exact h2.elt j 0
   ·rw [qg, List.getElem?_eq_none (by omega)]; decide
  have zlt : AllLt (s ++ [1]) := allLt_app slt (by intro j; cases j <;> simp)
  have U := inv_unit ha hc (Nat.le_refl _) n (Nat.le_refl _) q e
  have hq : ∀ i, i < n → dotTo ((joinN q.1 q.2).getD i []) (s ++ [1]) (n + 1) = 0 := by
   intro i hi
   rw [joinN_get _ _ _ (by rw [h1.len]; exact hi), dot_app (h1.row i hi) sl 1, dot_identRow slt (fun j hj => U i j hi hj) n (Nat.le_refl _), if_pos hi, dotTo, dotTo, Nat.zero_xor]
   have e1 : ([1] : List Nat).getD 0 0 = 1 := rfl
   rw [e1, mul_one _ (h2.elt i 0), sg i hi, Nat.xor_self]
  intro i hi
  have := pair_kern ha hc zlt n (Nat.le_refl _) q e hq i hi
  rw [joinN_get _ _ _ (by rw [ha.len]; exact hi), dot_app (ha.row i hi) sl 1, dotTo, dotTo, Nat.zero_xor] at this
  have e1 : ([1] : List Nat).getD 0 0 = 1 := rfl
  have e2 : ((colN V).getD i []).getD 0 0 = V.getD i 0 := by simp [colN, qg, hl, hi]
  rw [e1, e2, mul_one _ (hV i)] at this
  exact xor_zero_eq this
end Gf
end Go.Proofs.YthdbacihhmilbaaGreatDoor
