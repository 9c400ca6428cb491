/-
  Steps played one after another: what a disk becomes, and which were done. No program.
  Steps played one after another: the program's PlayDisk, call by call. The contract says what it asks.
  Steps played one after another: the model's PlayDisk, call by call. The contract says what it asks.
  A disk and a row of Booleans of the call's own: what a law asks of them. No program.
  The law that holds the program's PlayDisk against its model's: at every number and steps the call returns true, and nothing that was there is written. No condition.
-/
import Derived.Test.YtnjpkfgljabdaaaDjn
import Derived.Test.YtnjpkfgljabdaaaStm
import Derived.Test.YtnjpkfgljabdaaaDnw
namespace Go.Proofs.Ytnjpkfgljabdaaa
open Go.RowKit
set_option linter.unusedVariables false

theorem gk_step {P H : List ByteArray} {B : List Bool} {K A : Int} {T : ByteArray} {ks : List Int} (g : gkP P H B) (h : stOk P H B P.length K A T ks) : gkP (stP P H P.length K A T ks) (stH H K A T) (stB B K A) := by
  obtain ⟨h1, h2, h3, h4, h5, h6⟩ := g
  have cr : ∀ l : List Int, ∀ i, i < P.length → ((crP P H l).getD i ⟨#[]⟩).size ≤ 28 := fun l i hi => by
    rw [crP, crPk_at P H l _ i hi]
    split
    · exact h5 i hi
    · exact h4 i hi
  have ch : ∀ i, (crH H).getD i ⟨#[]⟩ = ⟨#[]⟩ := fun i => by
    simp only [crH, List.getD_eq_getElem?_getD, List.getElem?_replicate]
    split <;> rfl
  have gg : gkP (stP P H P.length K A T ks) (stH H K A T) (stB B K A) ↔ (∀ i, i < P.length → ((stP P H P.length K A T ks).getD i ⟨#[]⟩).size ≤ 28) ∧ (∀ i, i < P.length → ((stH H K A T).getD i ⟨#[]⟩).size ≤ 28) ∧ (∀ i, i < P.length → (stB B K A).getD i false = true → (stH H K A T).getD i ⟨#[]⟩ = ⟨#[]⟩) := by
    unfold gkP
    rw [stP_len, stH_len, stB_len]
    exact ⟨fun x => x.2.2.2, fun x => ⟨h1, h2, h3, x⟩⟩
  rw [gg]
  have a : ∀ (l : List ByteArray) (k : Nat) (x : ByteArray) (j : Nat), k < l.length → (l.set k x).getD j ⟨#[]⟩ = if j = k then x else l.getD j ⟨#[]⟩ := fun l k x j hk => getD_set l k j x ⟨#[]⟩ hk
  have b : ∀ (l : List Bool) (k : Nat) (x : Bool) (j : Nat), k < l.length → (l.set k x).getD j false = if j = k then x else l.getD j false := fun l k x j hk => getD_set l k j x false hk
  rcases h with ⟨rfl, rfl, hA, hb, hT1, hT2⟩ | ⟨rfl, rfl, rfl, rfl⟩ | ⟨rfl, rfl, rfl, _⟩ | ⟨rfl, rfl, hA, hz, hT1, hT2⟩ | ⟨rfl, rfl, rfl, hA⟩ | ⟨rfl, rfl, rfl, hA, hb⟩
  · refine ⟨h4, fun i hi => ?_, fun i hi hB => ?_⟩
    · show ((H.set A.toNat T).getD i ⟨#[]⟩).size ≤ 28
      rw [a H _ _ _ (by omega)]
      split
      · exact hT2
      · exact h5 i hi
    · show (H.set A.toNat T).getD i ⟨#[]⟩ = ⟨#[]⟩
      have hB : B.getD i false = true := hB
      rw [a H _ _ _ (by omega)]
      split
      · next e =>
        rw [e, hb] at hB
        simp at hB
      · exact h6 i hi hB
  · exact ⟨cr _, fun i hi => by show ((crH H).getD i ⟨#[]⟩).size ≤ 28; rw [ch]; decide, fun i hi _ => ch i⟩
  · exact ⟨cr _, fun i hi => by show ((crH H).getD i ⟨#[]⟩).size ≤ 28; rw [ch]; decide, fun i hi _ => ch i⟩
  · refine ⟨fun i hi => ?_, h5, h6⟩
    show ((P.set A.toNat (rotT (P.getD A.toNat ⟨#[]⟩) T)).getD i ⟨#[]⟩).size ≤ 28
    rw [a P _ _ _ (by omega)]
    split
    · rw [rotT_size]; exact h4 _ (by omega)
    · exact h4 i hi
  · refine ⟨h4, fun i hi => ?_, fun i hi hB => ?_⟩
    · show ((H.set A.toNat ⟨#[]⟩).getD i ⟨#[]⟩).size ≤ 28
      rw [a H _ _ _ (by omega)]
      split
      · decide
      · exact h5 i hi
    · show (H.set A.toNat ⟨#[]⟩).getD i ⟨#[]⟩ = ⟨#[]⟩
      have hB : (B.set A.toNat true).getD i false = true := hB
      rw [a H _ _ _ (by omega)]
      rw [b B _ _ _ (by omega)] at hB
      split
      · rfl
      · next e =>
        rw [if_neg e] at hB
        exact h6 i hi hB
  · refine ⟨fun i hi => ?_, h5, fun i hi hB => ?_⟩
    · show ((P.set A.toNat ⟨#[]⟩).getD i ⟨#[]⟩).size ≤ 28
      rw [a P _ _ _ (by omega)]
      split
      · decide
      · exact h4 i hi
    · have hB : (B.set A.toNat false).getD i false = true := hB
      rw [b B _ _ _ (by omega)] at hB
      split at hB
      · simp at hB
      · exact h6 i hi hB

abbrev Dk := List ByteArray × List ByteArray × List Bool
def stepD (ok : Bool) (D : Dk) (s : Stp) : Dk := if ok = true then (stP D.1 D.2.1 D.1.length s.1 s.2.1 s.2.2.1 s.2.2.2, stH D.2.1 s.1 s.2.1 s.2.2.1, stB D.2.2 s.1 s.2.1) else D
def okD (D : Dk) (s : Stp) : Prop := stOk D.1 D.2.1 D.2.2 D.1.length s.1 s.2.1 s.2.2.1 s.2.2.2
/-- The disk behind k steps, where of each it is told whether it is done. -/
def plD (f : Nat → Bool) (D : Dk) (m : List Stp) : Nat → Dk
  | 0 => D
  | k + 1 => stepD (f k) (plD f D m k) (m.getD k stp0)
theorem pl_some (D : Dk) (m : List Stp) : ∃ f : Nat → Bool, ∀ k, f k = true ↔ okD (plD f D m k) (m.getD k stp0) := by
  classical
  let S : Nat → Dk := fun k => Nat.rec D (fun k E => stepD (decide (okD E (m.getD k stp0))) E (m.getD k stp0)) k
  refine ⟨fun k => decide (okD (S k) (m.getD k stp0)), ?_⟩
  have e : ∀ k, plD (fun k => decide (okD (S k) (m.getD k stp0))) D m k = S k := by
    intro k
    induction k with
    | zero => rfl
    | succ k ih =>
      show stepD _ (plD _ D m k) _ = _
      rw [ih]
  intro k
  rw [e k]
  exact decide_eq_true_iff
theorem pl_good {f : Nat → Bool} {D : Dk} {m : List Stp} (hf : ∀ k, f k = true ↔ okD (plD f D m k) (m.getD k stp0)) (g : gkP D.1 D.2.1 D.2.2) : ∀ k, gkP (plD f D m k).1 (plD f D m k).2.1 (plD f D m k).2.2 ∧ (plD f D m k).1.length = D.1.length
  | 0 => ⟨g, rfl⟩
  | k + 1 => by
    obtain ⟨ih, il⟩ := pl_good hf g k
    have e : plD f D m (k + 1) = stepD (f k) (plD f D m k) (m.getD k stp0) := rfl
    rw [e]
    cases hk : f k with
    | false => exact ⟨ih, il⟩
    | true => exact ⟨gk_step ih ((hf k).1 hk), (stP_len _ _ _ _ _ _ _).trans il⟩
/-- Which steps were done: of n, the first k told. -/
def dn (f : Nat → Bool) (n k : Nat) : List Bool := (List.range n).map fun i => decide (i < k) && f i
theorem dn_len (f : Nat → Bool) (n k : Nat) : (dn f n k).length = n := by simp [dn]
theorem dn_at (f : Nat → Bool) (n k i : Nat) (h : i < n) : (dn f n k).getD i false = (decide (i < k) && f i) := by
  simp [dn, h]
theorem dn_zero (f : Nat → Bool) (n : Nat) : dn f n 0 = List.replicate n false := by
  simp [dn, List.map_const']
theorem dn_yes (f : Nat → Bool) (n k : Nat) (hk : k < n) (h : f k = true) : (dn f n k).set k true = dn f n (k + 1) := by
  refine List.ext_getElem? fun i => ?_
  simp only [dn, List.getElem?_set, List.getElem?_map, List.length_map, List.length_range]
  by_cases e : k = i
  · subst e
    simp [hk, h]
  · rw [if_neg e]
    by_cases hi : i < n
    · rw [List.getElem?_range hi]
      simp only [Option.map_some]
      have : (decide (i < k)) = decide (i < k + 1) := by
        by_cases h' : i < k
        · simp [h', Nat.lt_succ_of_lt h']
        · have : ¬ i < k + 1 := by omega
          simp [h', this]
      rw [this]
    · rw [List.getElem?_eq_none (by simpa using hi)]; rfl
theorem dn_no (f : Nat → Bool) (n k : Nat) (h : f k = false) : dn f n k = dn f n (k + 1) := by
  refine List.map_congr_left fun i _ => ?_
  by_cases e : i = k
  · subst e; simp [h]
  · have : (decide (i < k)) = decide (i < k + 1) := by
      by_cases h' : i < k
      · simp [h', Nat.lt_succ_of_lt h']
      · have : ¬ i < k + 1 := by omega
        simp [h', this]
    rw [this]
theorem dn_app (f : Nat → Bool) (k : Nat) : dn f k k ++ [f k] = dn f (k + 1) (k + 1) := by
  simp only [dn, List.range_succ, List.map_append, List.map_cons, List.map_nil]
  congr 1
  · refine List.map_congr_left fun i hi => ?_
    have := List.mem_range.1 hi
    simp [this, Nat.lt_succ_of_lt this]
  · simp
theorem nd_good {n : Int} (h : 1 ≤ n ∧ n ≤ 24) : gkP (ndT n) (ndT n) (ndZ n) := by
  unfold ndT ndZ
  rw [if_pos h, if_pos h]
  have r : ∀ i, (List.replicate n.toNat (⟨#[]⟩ : ByteArray)).getD i ⟨#[]⟩ = ⟨#[]⟩ := fun i => by
    simp only [List.getD_eq_getElem?_getD, List.getElem?_replicate]
    split <;> rfl
  refine ⟨by simp; omega, by simp, by simp, fun i hi => ?_, fun i hi => ?_, fun i hi _ => r i⟩
  · rw [r]; decide
  · rw [r]; decide
theorem plD_no {f : Nat → Bool} {D : Dk} {m : List Stp} {k : Nat} (h : f k = false) : plD f D m (k + 1) = plD f D m k := by
  show stepD (f k) _ _ = _
  rw [h]; rfl
end Go.Proofs.Ytnjpkfgljabdaaa

namespace Go.Proofs.Ytnjpkfgljabdaaa
open Go.RowKit
set_option linter.unusedVariables false

/-- A disk and a row of Booleans of the call's own, apart. -/
def PD (w : World) (lo hi : Nat) (p h b v : Value) (D : Dk) (ds : List Bool) : Prop :=
  ∃ x y, DskV w x y p h b D.1 D.2.1 D.2.2 ∧ lo ≤ x ∧ y ≤ hi ∧ hi ≤ w.heap.size ∧ OwnZ w lo v ds ∧ ∀ k, v.ownBlock = some k → k < hi ∧ (k < x ∨ y ≤ k)
def TPD (p h b v : Value) (D : Dk) (ds : List Bool) : Tg := fun lo hi w => PD w lo hi p h b v D ds
theorem TPD.st (p h b v : Value) (D : Dk) (ds : List Bool) : (TPD p h b v D ds).st := by
  intro lo hi a c w w' ⟨x, y, d, h1, h2, h3, o, ht⟩ hc hd
  exact ⟨x, y, d.chg hc (by omega), h1, h2, Nat.le_trans h3 hc.size, ownsRow_chg o (fun k hk => (ht k hk).1) hc hd, ht⟩
def nil1 : Value := .slice none 0 0
theorem PD.nil (w : World) (lo : Nat) (h : lo ≤ w.heap.size) : PD w lo w.heap.size (.slice none 0 0) (.slice none 0 0) (.slice none 0 0) (.slice none 0 0) ([], [], []) [] :=
  ⟨lo, lo, DskV.nil _ _ _, Nat.le_refl _, h, Nat.le_refl _, World.ownsRow_nil _ _ _ _, fun k hk => by simp [Value.ownBlock] at hk⟩
/-- What PlayDisk answers. -/
def pdD (ok : Bool) (f : Nat → Bool) (D : Dk) (m : List Stp) : Dk := if ok = true then plD f D m m.length else ([], [], [])
def pdZ (ok : Bool) (f : Nat → Bool) (m : List Stp) : List Bool := if ok = true then dn f m.length m.length else []

set_option linter.unusedSimpArgs false in
set_option maxRecDepth 100000 in
set_option maxHeartbeats 3200000 in
theorem playDisk_calls (n : Int) (v : Value) (m : List Stp) (f : Nat → Bool) (ok : Bool) (w : World) (hv : RdX w v m) (hz : m.length + totX m ≤ 1048576) (hf : ∀ k, f k = true ↔ okD (plD f (ndT n, ndT n, ndZ n) m k) (m.getD k stp0)) (hok : ok = true ↔ ((1 ≤ n ∧ n ≤ 24) ∧ m.length ≤ 80)) :
    Calls Try.prog 30 #[.int .i64 n, v] w fun e w' => ∃ p h b u, e = .returned (.tuple #[.agg #[p, h, b], u, .bool ok]) ∧ PD w' w.heap.size w'.heap.size p h b u (pdD ok f (ndT n, ndT n, ndZ n) m) (pdZ ok f m) ∧ Below w.heap.size w w' := by
  have R := hide hv
  have HF := hide hf
  have HZ := hide hz
  have HOK := hide hok
  obtain ⟨av, cv, rfl, _, _⟩ := hv
  have A0 := hide ((Hand.start w).box nil3 25)
  have hl0 : m.length ≤ 1048576 := by omega
  clear hf hz hok
  by_cases hn : 1 ≤ n ∧ n ≤ 24
  case neg =>
    obtain rfl : ok = false := by
      cases ok with
      | false => rfl
      | true => exact absurd (HOK.out.1 rfl).1 hn
    have hk : ndK n = false := decide_eq_false hn
    have CN := hide (fun W => newDisk_calls n W)
    rw [hk] at CN
    go_enter Try.func30, Try.ntmps30
    go_wp2_with fail
    refine (CN.out _).mono ?_
    rintro e w1 ⟨p1, h1, b1, rfl, d, q⟩
    obtain ⟨ap1, cp1, ah1, ch1, ab1, cb1, rfl, rfl, rfl⟩ := d.sl
    have A1 := hide ((A0.out.add q (TDsk.st _ _ _ _ _ _) d).box #[.slice ap1 (ndT n).length cp1, .slice ah1 (ndT n).length ch1, .slice ab1 (ndZ n).length cb1] 25)
    clear q d A0
    have xr := A1.out.atBox 2 rfl
    obtain ⟨d0, d1, d2⟩ := xr.c3
    have g0 := xr.frozen 0
    have g1 := xr.frozen 1
    have g2 := xr.frozen 2
    have A2 := hide (A1.out.store3 2 rfl (.slice none 0 0) (.slice none 0 0) (.slice none 0 0))
    clear xr
    go_wp2
    exact bodyPost_ret (res_dsk3 rfl _ _ w.heap.size _ _ _ (0, 0) rfl (A2.out.atBox 2 rfl)) rfl ⟨_, _, _, _, rfl, PD.nil _ _ A2.out.below.size, A2.out.below⟩
  have hk : ndK n = true := decide_eq_true hn
  have CN := hide (fun W => newDisk_calls n W)
  rw [hk] at CN
  clear hk
  by_cases hm : m.length ≤ 80
  case neg =>
    obtain rfl : ok = false := by
      cases ok with
      | false => rfl
      | true => exact absurd (HOK.out.1 rfl).2 hm
    have hm' : (80 : Int) < (m.length : Int) := by omega
    have hm2 : decide ((80 : Int) < (m.length : Int)) = true := decide_eq_true hm'
    go_enter Try.func30, Try.ntmps30
    go_wp2_with fail
    refine (CN.out _).mono ?_
    rintro e w1 ⟨p1, h1, b1, rfl, d, q⟩
    obtain ⟨ap1, cp1, ah1, ch1, ab1, cb1, rfl, rfl, rfl⟩ := d.sl
    have A1 := hide ((A0.out.add q (TDsk.st _ _ _ _ _ _) d).box #[.slice ap1 (ndT n).length cp1, .slice ah1 (ndT n).length ch1, .slice ab1 (ndZ n).length cb1] 25)
    clear q d A0
    have xr := A1.out.atBox 2 rfl
    obtain ⟨d0, d1, d2⟩ := xr.c3
    have g0 := xr.frozen 0
    have g1 := xr.frozen 1
    have g2 := xr.frozen 2
    have A2 := hide (A1.out.store3 2 rfl (.slice none 0 0) (.slice none 0 0) (.slice none 0 0))
    clear xr
    go_wp2
    exact bodyPost_ret (res_dsk3 rfl _ _ w.heap.size _ _ _ (0, 0) rfl (A2.out.atBox 2 rfl)) rfl ⟨_, _, _, _, rfl, PD.nil _ _ A2.out.below.size, A2.out.below⟩
  obtain rfl : ok = true := HOK.out.2 ⟨hn, hm⟩
  have hm1 : ¬ (80 : Int) < (m.length : Int) := by omega
  have hm2 : decide ((80 : Int) < (m.length : Int)) = false := decide_eq_false hm1
  have GD := hide (pl_good HF.out (nd_good hn))
  clear HOK
  obtain ⟨D, hD⟩ : ∃ D : Dk, D = (ndT n, ndT n, ndZ n) := ⟨_, rfl⟩
  have CN2 : Hid (∀ W, Calls Try.prog 11 #[.int .i64 n] W fun e w' => ∃ p h b, e = .returned (.tuple #[.agg #[p, h, b], .bool true]) ∧ DskV w' W.heap.size w'.heap.size p h b D.1 D.2.1 D.2.2 ∧ Below W.heap.size W w') := by
    rw [hD]; exact CN.out
  rw [← hD] at HF GD ⊢
  clear hD CN
  go_enter Try.func30, Try.ntmps30
  go_wp2_with fail
  refine (CN2.out _).mono ?_
  rintro e w1 ⟨p1, h1, b1, rfl, d, q⟩
  obtain ⟨ap1, cp1, ah1, ch1, ab1, cb1, rfl, rfl, rfl⟩ := d.sl
  have q1 := q.size
  simp only [World.size_alloc] at q1
  have A1 := hide ((A0.out.add q (TDsk.st _ _ _ _ _ _) d).box #[.slice ap1 D.1.length cp1, .slice ah1 D.2.1.length ch1, .slice ab1 D.2.2.length cb1] 25)
  have dd := hide (d.below (below_box w1 (.cells #[.slice ap1 D.1.length cp1, .slice ah1 D.2.1.length ch1, .slice ab1 D.2.2.length cb1] 25)))
  clear q d A0 CN2
  simp only [World.size_alloc] at dd
  go_upto_region 4 with fail
  have s1 : (w1.alloc (.cells #[.slice ap1 D.1.length cp1, .slice ah1 D.2.1.length ch1, .slice ab1 D.2.2.length cb1] 25)).heap.size = w1.heap.size + 1 := by simp
  generalize w1.alloc (.cells #[.slice ap1 D.1.length cp1, .slice ah1 D.2.1.length ch1, .slice ab1 D.2.2.length cb1] 25) = w2 at *
  have S1 := hide s1
  clear s1
  go_wp2_with (at_make; refine wpList_make_bols rfl _ _ rfl w2.heap.size _ _ m.length rfl rfl (by omega) (by omega) (by omega) (Nat.le_refl _) ?_)
  intro w3 o3 g3
  have b3 : Below w2.heap.size w2 w3 := (Below.refl _ _).grown g3 (Nat.le_refl _) (fun k h => by cases h)
  have A3 := hide (A1.out.step b3)
  have d3 := hide (dd.out.below b3)
  have z3 : w2.heap.size < w3.heap.size := (World.ownsRow.lt o3 w2.heap.size rfl).2
  have O3 := hide o3
  clear o3 g3 b3 A1 dd
  go_wp2_with fail
  go_loopw [32] (fun vi wr => ∃ (k : Nat) (p h b : Value) (x y : Nat), k ≤ m.length ∧ vi = .int .i64 k ∧ BoxAt wr w.heap.size nil3 25 ∧ BoxAt wr w1.heap.size #[p, h, b] 25 ∧ OwnZ wr w2.heap.size (.slice (some ⟨w2.heap.size, 0, none⟩) m.length m.length) (dn f m.length k) ∧
    DskV wr x y p h b (plD f D m k).1 (plD f D m k).2.1 (plD f D m k).2.2 ∧ (w.heap.size + 1 ≤ x ∧ (y ≤ w1.heap.size ∨ w2.heap.size + 1 ≤ x) ∧ y ≤ wr.heap.size) ∧ Below w.heap.size w wr) (fun vi _ => m.length - (intOf vi).toNat)
  case atStart =>
    refine ⟨0, _, _, _, w.heap.size + 1, w1.heap.size, Nat.zero_le _, rfl, A3.out.atBox 2 rfl, A3.out.atBox 0 rfl, ?_, d3.out, ⟨Nat.le_refl _, .inl (Nat.le_refl _), by have := S1.out; omega⟩, A3.out.below⟩
    have := O3.out
    rw [dn_zero]
    simpa [dn_len] using this
  case round =>
    obtain ⟨k, p, h, b, x, y, hk, rfl, X0, X7, O, dk, ⟨hx1, hx2, hx3⟩, hb⟩ := hrel
    have HX0 := hide X0
    have HX7 := hide X7
    have HO := hide O
    have HD := hide dk
    have HB := hide hb
    have hs1 := hb.size
    have t9 : w2.heap.size < wr.heap.size := (World.ownsRow.lt O w2.heap.size rfl).2
    clear X0 X7 O dk hb A3 d3 O3
    by_cases hlt : k < m.length
    · have hlt' : (k : Int) < (m.length : Int) := by omega
      obtain ⟨bs, off, K, A, T, u, ks, rfl, hs, hTm, hu, c0, c1, c2, c3⟩ := (R.out.below HB.out).at k hlt
      obtain ⟨ua, uc, rfl, _, _⟩ := hu.sl
      have dk := HD.out
      obtain ⟨ap, cp, ah, ch, ab, cb, rfl, rfl, rfl⟩ := dk.sl
      clear dk
      have hr : totX (m.take k) + (T.size + ks.length) ≤ totX m := by
        have hr := totX_row_le m k hlt
        rw [hs] at hr
        exact hr
      have hzz := HZ.out
      have bT : T.size ≤ 1048576 := by omega
      have hkl : ks.length ≤ 1048576 := by omega
      clear hr hzz
      obtain ⟨z, hy⟩ : ∃ z, f k = z := ⟨_, rfl⟩
      have HY := hide hy
      have HK : Hid (z = true ↔ (gkP (plD f D m k).1 (plD f D m k).2.1 (plD f D m k).2.2 ∧ stOk (plD f D m k).1 (plD f D m k).2.1 (plD f D m k).2.2 (plD f D m k).1.length K A T ks)) := by
        show _ ↔ _
        rw [← HY.out, HF.out k, hs]
        exact ⟨fun h => ⟨(GD.out k).1, h⟩, fun h => h.2⟩
      have NXT : Hid (z = true → plD f D m (k + 1) = (sdP true (plD f D m k).1 (plD f D m k).2.1 K A T ks, sdH true (plD f D m k).2.1 K A T, sdB true (plD f D m k).2.2 K A)) := by
        intro hh
        show stepD (f k) _ _ = _
        rw [HY.out, hh, hs]
        rfl
      have HU := hide hu
      clear hy hs hu
      obtain ⟨E, hE⟩ : ∃ E, E = plD f D m k := ⟨_, rfl⟩
      have HE := hide hE
      rw [← hE] at HD HK NXT HX7
      clear hE
      have bb := below_box wr (.cells #[.int .i64 K, .int .i64 A, .string T, .slice ua ks.length uc] 44)
      have Y0 := hide (HX0.out.below bb)
      have Y7 := hide (HX7.out.below bb)
      have YS := hide (BoxAt.new wr #[.int .i64 K, .int .i64 A, .string T, .slice ua ks.length uc] 44)
      have YO := hide (ownsRow_below HO.out bb)
      have YD := hide (HD.out.below bb)
      have YU := hide (HU.out.below bb)
      have YB := hide (HB.out.trans (bb.mono HB.out.size))
      have sb := bb.size
      clear bb HX0 HX7 HO HD HU HB
      go_upto_region 8 with fail
      generalize wr.alloc (.cells #[.int .i64 K, .int .i64 A, .string T, .slice ua ks.length uc] 44) = W1 at *
      clear c0 c1 c2 c3
      obtain ⟨e0, e1, e2, e3⟩ := YS.out.c4
      obtain ⟨f0, f1, f2⟩ := Y7.out.c3
      go_wp2_with fail
      refine (stepDisk_calls _ _ _ _ E.1 E.2.1 E.2.2 K A T ks z _ HK.out YD.out.rp YD.out.rh YD.out.rb YU.out bT hkl).mono ?_
      rintro e w4 ⟨p', h', b', rfl, d', q⟩
      obtain ⟨ap', cp', ah', ch', ab', cb', rfl, rfl, rfl⟩ := d'.sl
      clear e0 e1 e2 e3 f0 f1 f2 HK
      have bb := below_box w4 (.cells #[.slice ap' (sdP z E.1 E.2.1 K A T ks).length cp', .slice ah' (sdH z E.2.1 K A T).length ch', .slice ab' (sdB z E.2.2 K A).length cb'] 25)
      have qq := q.trans (bb.mono q.size)
      have Z0 := hide (Y0.out.below qq)
      have Z7 := hide (Y7.out.below qq)
      have ZO := hide (ownsRow_below YO.out qq)
      have ZD := hide (YD.out.below qq)
      have ZB := hide (YB.out.trans (qq.mono YB.out.size))
      have ZN := hide (d'.below bb)
      have ZX := hide (BoxAt.new w4 #[.slice ap' (sdP z E.1 E.2.1 K A T ks).length cp', .slice ah' (sdH z E.2.1 K A T).length ch', .slice ab' (sdB z E.2.2 K A).length cb'] 25)
      have sq := q.size
      have sqq := bb.size
      clear q bb qq d' Y0 Y7 YS YO YD YU YB
      cases z with
      | false =>
        go_wp2
        go_roundw
        case rel =>
          refine ⟨k + 1, _, _, _, x, y, by omega, by go_num, Z0.out, Z7.out, ?_, ?_, ⟨hx1, hx2, by omega⟩, ZB.out⟩
          · rw [← dn_no f _ k HY.out]
            exact ZO.out
          · rw [plD_no HY.out, ← HE.out]
            exact ZD.out
        case measure => simp [intOf]; omega
      | true =>
        go_upto_region 10 with fail
        generalize w4.alloc (.cells #[.slice ap' (sdP true E.1 E.2.1 K A T ks).length cp', .slice ah' (sdH true E.2.1 K A T).length ch', .slice ab' (sdB true E.2.2 K A).length cb'] 25) = W2 at *
        have s1 := S1.out
        obtain ⟨f0, f1, f2⟩ := ZX.out.c3
        obtain ⟨j0, j1, j2⟩ := Z7.out.c3
        have i0 := Z7.out.frozen 0
        have i1 := Z7.out.frozen 1
        have i2 := Z7.out.frozen 2
        have ZO1 : Hid (W2.ownsRow w2.heap.size 4 1 (.slice (some ⟨w2.heap.size, 0, none⟩) m.length m.length) m.length ((dn f m.length k).map Value.bool)) := by
          have t := ZO.out
          unfold OwnZ at t
          rw [dn_len] at t
          exact t
        have hc7 : Chg w1.heap.size (w1.heap.size + 1) W2 (((W2.setCell ⟨w1.heap.size, 0, none⟩ (.slice ap' (sdP true E.1 E.2.1 K A T ks).length cp')).setCell ⟨w1.heap.size, 1, none⟩ (.slice ah' (sdH true E.2.1 K A T).length ch')).setCell ⟨w1.heap.size, 2, none⟩ (.slice ab' (sdB true E.2.2 K A).length cb')) := Chg.store3 W2 w1.heap.size _ _ _ (Nat.le_refl _) (by omega)
        have V7 := hide (Z7.out.store3 (.slice ap' (sdP true E.1 E.2.1 K A T ks).length cp') (.slice ah' (sdH true E.2.1 K A T).length ch') (.slice ab' (sdB true E.2.2 K A).length cb'))
        have V0 := hide (Z0.out.chg hc7 (.inl (by omega)))
        have VO := hide (ownsRow_chg ZO1.out (row_top ZO1.out) hc7 (.inr (by omega)))
        have VN := hide (ZN.out.chg hc7 (.inr (by omega)))
        have k9 : (W2.cell? ⟨w2.heap.size, k, none⟩ = some (.bool ((dn f m.length k).getD k false))) := by
          rw [World.ownsRow.cellAt ZO1.out k (by omega), List.getElem?_map, List.getElem?_eq_getElem (by rw [dn_len]; exact hlt), List.getD_eq_getElem?_getD, List.getElem?_eq_getElem (by rw [dn_len]; exact hlt)]
          rfl
        have l9 : W2.frozen? ⟨w2.heap.size, k, none⟩ = false := World.ownsRow.frozenAt ZO1.out k
        have k9' : ((((W2.setCell ⟨w1.heap.size, 0, none⟩ (.slice ap' (sdP true E.1 E.2.1 K A T ks).length cp')).setCell ⟨w1.heap.size, 1, none⟩ (.slice ah' (sdH true E.2.1 K A T).length ch')).setCell ⟨w1.heap.size, 2, none⟩ (.slice ab' (sdB true E.2.2 K A).length cb')).cell? ⟨w2.heap.size, k, none⟩ = some (.bool ((dn f m.length k).getD k false))) := by
          rw [World.ownsRow.cellAt VO.out k (by omega), List.getElem?_map, List.getElem?_eq_getElem (by rw [dn_len]; exact hlt), List.getD_eq_getElem?_getD, List.getElem?_eq_getElem (by rw [dn_len]; exact hlt)]
          rfl
        have l9' : (((W2.setCell ⟨w1.heap.size, 0, none⟩ (.slice ap' (sdP true E.1 E.2.1 K A T ks).length cp')).setCell ⟨w1.heap.size, 1, none⟩ (.slice ah' (sdH true E.2.1 K A T).length ch')).setCell ⟨w1.heap.size, 2, none⟩ (.slice ab' (sdB true E.2.2 K A).length cb')).frozen? ⟨w2.heap.size, k, none⟩ = false := World.ownsRow.frozenAt VO.out k
        have ST := hide (World.ownsRow.stored VO.out k (.bool true))
        have hc9 : Chg w2.heap.size (w2.heap.size + 1) (((W2.setCell ⟨w1.heap.size, 0, none⟩ (.slice ap' (sdP true E.1 E.2.1 K A T ks).length cp')).setCell ⟨w1.heap.size, 1, none⟩ (.slice ah' (sdH true E.2.1 K A T).length ch')).setCell ⟨w1.heap.size, 2, none⟩ (.slice ab' (sdB true E.2.2 K A).length cb')) ((((W2.setCell ⟨w1.heap.size, 0, none⟩ (.slice ap' (sdP true E.1 E.2.1 K A T ks).length cp')).setCell ⟨w1.heap.size, 1, none⟩ (.slice ah' (sdH true E.2.1 K A T).length ch')).setCell ⟨w1.heap.size, 2, none⟩ (.slice ab' (sdB true E.2.2 K A).length cb')).setCell ⟨w2.heap.size, k, none⟩ (.bool true)) := Chg.ofSetCell _ _ _ _ (Nat.le_refl _) (by omega)
        have U7 := hide (V7.out.chg hc9 (.inl (by omega)))
        have U0 := hide (V0.out.chg hc9 (.inl (by omega)))
        have UN := hide (VN.out.chg hc9 (.inr (by omega)))
        have UB := hide ((ZB.out.trans (hc7.below (by omega) (by have := ZB.out.size; omega))).trans (hc9.below (by omega) (by have := hc7.size; have := ZB.out.size; omega)))
        have z7 := hc7.size
        have z9 := hc9.size
        have UO : Hid (OwnZ ((((W2.setCell ⟨w1.heap.size, 0, none⟩ (.slice ap' (sdP true E.1 E.2.1 K A T ks).length cp')).setCell ⟨w1.heap.size, 1, none⟩ (.slice ah' (sdH true E.2.1 K A T).length ch')).setCell ⟨w1.heap.size, 2, none⟩ (.slice ab' (sdB true E.2.2 K A).length cb')).setCell ⟨w2.heap.size, k, none⟩ (.bool true)) w2.heap.size (.slice (some ⟨w2.heap.size, 0, none⟩) m.length m.length) (dn f m.length (k + 1))) := by
          have := ST.out.1
          rw [show (Value.bool true) = Value.bool true from rfl, ← List.map_set, dn_yes f _ k hlt HY.out] at this
          show OwnZ _ _ _ _
          unfold OwnZ
          rw [dn_len]
          exact this
        have nx := NXT.out trivial
        have NX := hide nx
        have n1 : ¬ w2.heap.size = w1.heap.size := by omega
        have n2 : ¬ w1.heap.size = w2.heap.size := by omega
        clear nx hc7 hc9 VO ZO ZO1 ST Z7 Z0 ZN V7 V0 VN ZX ZD s1
        go_wp2
        go_roundw
        case rel =>
          refine ⟨k + 1, _, _, _, W1.heap.size, w4.heap.size, by omega, by go_num, U0.out, U7.out, UO.out, ?_, ⟨by have := S1.out; omega, .inr (by omega), by omega⟩, UB.out⟩
          rw [NX.out]
          exact UN.out
        case measure => simp [intOf]; omega
    · obtain rfl : k = m.length := by omega
      have dk := HD.out
      obtain ⟨ap, cp, ah, ch, ab, cb, rfl, rfl, rfl⟩ := dk.sl
      clear dk
      have s1 := S1.out
      obtain ⟨f0, f1, f2⟩ := HX7.out.c3
      obtain ⟨j0, j1, j2⟩ := HX0.out.c3
      have i0 := HX0.out.frozen 0
      have i1 := HX0.out.frozen 1
      have i2 := HX0.out.frozen 2
      have V0 := hide (HX0.out.store3 (.slice ap (plD f D m m.length).1.length cp) (.slice ah (plD f D m m.length).2.1.length ch) (.slice ab (plD f D m m.length).2.2.length cb))
      have hc : Chg w.heap.size (w.heap.size + 1) wr (((wr.setCell ⟨w.heap.size, 0, none⟩ (.slice ap (plD f D m m.length).1.length cp)).setCell ⟨w.heap.size, 1, none⟩ (.slice ah (plD f D m m.length).2.1.length ch)).setCell ⟨w.heap.size, 2, none⟩ (.slice ab (plD f D m m.length).2.2.length cb)) := Chg.store3 wr w.heap.size _ _ _ (Nat.le_refl _) (by omega)
      have VO := hide (ownsRow_chg HO.out (row_top HO.out) hc (.inr (by omega)))
      have VD := hide (HD.out.chg hc (.inr (by omega)))
      have VB := hide (HB.out.trans (hc.below (Nat.le_refl _) HB.out.size))
      have zc := hc.size
      have VT := hide (row_top VO.out)
      clear hc HX0 HX7 HO HD HB s1
      go_wp2
      refine bodyPost_ret (res_dsk3 rfl _ _ w.heap.size _ _ _ (0, 0) rfl V0.out) rfl ⟨_, _, _, _, rfl, ⟨x, y, VD.out, by omega, by omega, Nat.le_refl _, ownsRow_mono VO.out (by have := S1.out; omega), fun j hj => ⟨VT.out j hj, ?_⟩⟩, VB.out⟩
      have hj' : w2.heap.size = j := by simpa [Value.ownBlock] using hj
      have := S1.out
      omega
end Go.Proofs.Ytnjpkfgljabdaaa

namespace Go.Proofs.Ytnjpkfgljabdaaa
open Go.RowKit
set_option linter.unusedVariables false
theorem Hand.wideIf {W w : World} {L : List Tg} {c : Bool} {p h b : Value} {P H : List ByteArray} {B : List Bool} (A : Hand W w L) (i : Nat) (hi : L[i]? = some (TIf c (TDsk p h b P H B))) : c = true → DskV w W.heap.size w.heap.size p h b P H B := by
  obtain ⟨lo, hi', d, h1, h2, _⟩ := A.open i hi
  exact fun e => DskV.wider (d e) h1 h2
theorem rdZ_one {w : World} {x : Bool} : RdZ (w.alloc (.cells #[.bool x] 4)) (.slice (some ⟨w.heap.size, 0, none⟩) 1 1) [x] := by
  refine ⟨_, 1, rfl, by simp, ⟨by unfold maxLen; omega, fun h => by cases h⟩, .inr ⟨w.heap.size, 0, rfl, by simp, fun i hi => ?_⟩⟩
  have : i = 0 := by simpa using hi
  subst this
  rw [cell_of_row _ w.heap.size 0 _ _ _ (heap_alloc_new w _)]
  rfl
theorem grown_chg {w w' : World} {v : Value} (g : w.grownBy w' v.ownBlock) : ∃ a b, Chg a b w w' ∧ ((v.ownBlock = some a ∧ b = a + 1) ∨ (v.ownBlock = none ∧ a = w.heap.size ∧ b = w.heap.size)) := by
  cases h : v.ownBlock with
  | none =>
    rw [h] at g
    exact ⟨_, _, Chg.ofGrown g (fun k hk => by cases hk), .inr ⟨rfl, rfl, rfl⟩⟩
  | some a =>
    rw [h] at g
    exact ⟨a, a + 1, Chg.ofGrown g (fun k hk => by cases hk; omega), .inl ⟨rfl, rfl⟩⟩
/-- One Boolean behind a row of the call's own, and where it lies then. -/
theorem wpList_append_bol {w : World} {ops : Array Oper} {rest : List Oper} {o : Oper} {a : Act} {Q : Exit → Act → World → Prop} (hgd : o.guard = none) (s x : Operand)
    (ho : o.op = .call { callee := .builtin .append, args := #[s, x], argTypes := #[23, 23] })
    (base : Nat) (v : Value) (n : Nat) (xs : List Bool) (z : Bool) (hs : a.eval s = v) (hown : w.ownsRow base 4 1 v n (xs.map Value.bool)) (gx : Nat) (hx : a.eval x = .slice (some ⟨gx, 0, none⟩) 1 1) (hc : w.cell? ⟨gx, 0, none⟩ = some (.bool z))
    (hm : n ≤ 1000) (hbase : base ≤ w.heap.size)
    (h : ∀ g cap w', w'.ownsRow base 4 1 (.slice (some ⟨g, 0, none⟩) (n + 1) cap) (n + 1) ((xs ++ [z]).map Value.bool) → w.grownBy w' v.ownBlock → (v.ownBlock = some g ∨ g = w.heap.size) → g < w'.heap.size → wpList Try.prog ops Q rest (a.put o.dst (.slice (some ⟨g, 0, none⟩) (n + 1) cap)) w') : wpList Try.prog ops Q (o :: rest) a w := by
  obtain ⟨i0, hi, hz0, hz1, hz2⟩ := info_parts infoBol
  refine wpList_append_lies (w := w) hgd s x _ ho base _ i0 (.bool false) 1 1 Try.underlying23 hi hz0 hz1 hz2 rfl (by decide) v n _ hs hown ⟨gx, 0, none⟩ 1 1 ([z].map Value.bool) hx (by simp) ?_ (bols_oneCell _) (by decide) (by unfold maxLen; omega) (by omega) hbase _ rfl ?_
  · intro j u hu
    have : j = 0 := by
      have := (List.getElem?_eq_some_iff.1 hu).1
      simpa using this
    subst this
    simp at hu
    subst hu
    simpa [Addr.add] using hc
  · intro g cap w' h1 h2 h3 h4
    rw [← List.map_append] at h1
    exact h g cap w' h1 h2 h3 h4

set_option linter.unusedSimpArgs false in
set_option maxRecDepth 100000 in
set_option maxHeartbeats 3200000 in
theorem sPlayDisk_calls (n : Int) (v : Value) (m : List Stp) (f : Nat → Bool) (ok : Bool) (w : World) (hv : RdX w v m) (hz : m.length + totX m ≤ 1048576) (hf : ∀ k, f k = true ↔ okD (plD f (ndT n, ndT n, ndZ n) m k) (m.getD k stp0)) (hok : ok = true ↔ ((1 ≤ n ∧ n ≤ 24) ∧ m.length ≤ 80)) :
    Calls Try.prog 28 #[.int .i64 n, v] w fun e w' => ∃ p h b u, e = .returned (.tuple #[.agg #[p, h, b], u, .bool ok]) ∧ PD w' w.heap.size w'.heap.size p h b u (pdD ok f (ndT n, ndT n, ndZ n) m) (pdZ ok f m) ∧ Below w.heap.size w w' := by
  have R := hide hv
  have HF := hide hf
  have HZ := hide hz
  have HOK := hide hok
  obtain ⟨av, cv, rfl, _, _⟩ := hv
  have A0 := hide ((Hand.start w).box nil3 25)
  have hl0 : m.length ≤ 1048576 := by omega
  clear hf hz hok
  by_cases hn : 1 ≤ n ∧ n ≤ 24
  case neg =>
    obtain rfl : ok = false := by
      cases ok with
      | false => rfl
      | true => exact absurd (HOK.out.1 rfl).1 hn
    have hk : ndK n = false := decide_eq_false hn
    have CN := hide (fun W => sNewDisk_calls n W)
    rw [hk] at CN
    go_enter Try.func28, Try.ntmps28
    go_wp2_with fail
    refine (CN.out _).mono ?_
    rintro e w1 ⟨p1, h1, b1, rfl, d, q⟩
    obtain ⟨ap1, cp1, ah1, ch1, ab1, cb1, rfl, rfl, rfl⟩ := d.sl
    have A1 := hide ((A0.out.add q (TDsk.st _ _ _ _ _ _) d).box #[.slice ap1 (ndT n).length cp1, .slice ah1 (ndT n).length ch1, .slice ab1 (ndZ n).length cb1] 25)
    clear q d A0
    have xr := A1.out.atBox 2 rfl
    obtain ⟨d0, d1, d2⟩ := xr.c3
    have g0 := xr.frozen 0
    have g1 := xr.frozen 1
    have g2 := xr.frozen 2
    have A2 := hide (A1.out.store3 2 rfl (.slice none 0 0) (.slice none 0 0) (.slice none 0 0))
    clear xr
    go_wp2
    exact bodyPost_ret (res_dsk3 rfl _ _ w.heap.size _ _ _ (0, 0) rfl (A2.out.atBox 2 rfl)) rfl ⟨_, _, _, _, rfl, PD.nil _ _ A2.out.below.size, A2.out.below⟩
  have hk : ndK n = true := decide_eq_true hn
  have CN := hide (fun W => sNewDisk_calls n W)
  rw [hk] at CN
  clear hk
  by_cases hm : m.length ≤ 80
  case neg =>
    obtain rfl : ok = false := by
      cases ok with
      | false => rfl
      | true => exact absurd (HOK.out.1 rfl).2 hm
    have hm' : (80 : Int) < (m.length : Int) := by omega
    have hm2 : decide ((80 : Int) < (m.length : Int)) = true := decide_eq_true hm'
    go_enter Try.func28, Try.ntmps28
    go_wp2_with fail
    refine (CN.out _).mono ?_
    rintro e w1 ⟨p1, h1, b1, rfl, d, q⟩
    obtain ⟨ap1, cp1, ah1, ch1, ab1, cb1, rfl, rfl, rfl⟩ := d.sl
    have A1 := hide ((A0.out.add q (TDsk.st _ _ _ _ _ _) d).box #[.slice ap1 (ndT n).length cp1, .slice ah1 (ndT n).length ch1, .slice ab1 (ndZ n).length cb1] 25)
    clear q d A0
    have xr := A1.out.atBox 2 rfl
    obtain ⟨d0, d1, d2⟩ := xr.c3
    have g0 := xr.frozen 0
    have g1 := xr.frozen 1
    have g2 := xr.frozen 2
    have A2 := hide (A1.out.store3 2 rfl (.slice none 0 0) (.slice none 0 0) (.slice none 0 0))
    clear xr
    go_wp2
    exact bodyPost_ret (res_dsk3 rfl _ _ w.heap.size _ _ _ (0, 0) rfl (A2.out.atBox 2 rfl)) rfl ⟨_, _, _, _, rfl, PD.nil _ _ A2.out.below.size, A2.out.below⟩
  obtain rfl : ok = true := HOK.out.2 ⟨hn, hm⟩
  have hm1 : ¬ (80 : Int) < (m.length : Int) := by omega
  have hm2 : decide ((80 : Int) < (m.length : Int)) = false := decide_eq_false hm1
  have GD := hide (pl_good HF.out (nd_good hn))
  clear HOK
  obtain ⟨D, hD⟩ : ∃ D : Dk, D = (ndT n, ndT n, ndZ n) := ⟨_, rfl⟩
  have CN2 : Hid (∀ W, Calls Try.prog 10 #[.int .i64 n] W fun e w' => ∃ p h b, e = .returned (.tuple #[.agg #[p, h, b], .bool true]) ∧ DskV w' W.heap.size w'.heap.size p h b D.1 D.2.1 D.2.2 ∧ Below W.heap.size W w') := by
    rw [hD]; exact CN.out
  rw [← hD] at HF GD ⊢
  clear hD CN
  go_enter Try.func28, Try.ntmps28
  go_wp2_with fail
  refine (CN2.out _).mono ?_
  rintro e w1 ⟨p1, h1, b1, rfl, d, q⟩
  obtain ⟨ap1, cp1, ah1, ch1, ab1, cb1, rfl, rfl, rfl⟩ := d.sl
  have q1 := q.size
  simp only [World.size_alloc] at q1
  have A1 := hide ((A0.out.add q (TDsk.st _ _ _ _ _ _) d).box #[.slice ap1 D.1.length cp1, .slice ah1 D.2.1.length ch1, .slice ab1 D.2.2.length cb1] 25)
  have dd := hide (d.below (below_box w1 (.cells #[.slice ap1 D.1.length cp1, .slice ah1 D.2.1.length ch1, .slice ab1 D.2.2.length cb1] 25)))
  clear q d A0 CN2
  simp only [World.size_alloc] at dd
  go_wp2_with fail
  generalize w1.alloc (.cells #[.slice ap1 D.1.length cp1, .slice ah1 D.2.1.length ch1, .slice ab1 D.2.2.length cb1] 25) = w2 at *
  go_loopw [9, 29] (fun vd vi wr => ∃ (k : Nat) (p h b : Value) (x y : Nat), k ≤ m.length ∧ vi = .int .i64 k ∧ BoxAt wr w.heap.size nil3 25 ∧ BoxAt wr w1.heap.size #[p, h, b] 25 ∧ (OwnZ wr (w1.heap.size + 1) vd (dn f k k) ∧ ∀ j, vd.ownBlock = some j → j < x ∨ y ≤ j) ∧
    DskV wr x y p h b (plD f D m k).1 (plD f D m k).2.1 (plD f D m k).2.2 ∧ (w.heap.size + 1 ≤ x ∧ (y ≤ w1.heap.size ∨ w1.heap.size + 1 ≤ x) ∧ y ≤ wr.heap.size) ∧ Below w.heap.size w wr) (fun _ vi _ => m.length - (intOf vi).toNat)
  case atStart =>
    exact ⟨0, _, _, _, w.heap.size + 1, w1.heap.size, Nat.zero_le _, rfl, A1.out.atBox 2 rfl, A1.out.atBox 0 rfl, ⟨World.ownsRow_nil _ _ _ _, fun j hj => by simp [Value.ownBlock] at hj⟩, dd.out, ⟨Nat.le_refl _, .inl (Nat.le_refl _), by have := (A1.out.atBox 0 rfl).lt; omega⟩, A1.out.below⟩
  case round =>
    obtain ⟨k, p, h, b, x, y, hk, rfl, X0, X7, ⟨O, Ob⟩, dk, ⟨hx1, hx2, hx3⟩, hb⟩ := hrel
    have HX0 := hide X0
    have HX7 := hide X7
    have HO := hide O
    have HOB := hide Ob
    have HD := hide dk
    have HB := hide hb
    have hs1 := hb.size
    have t9 : w1.heap.size < wr.heap.size := X7.lt
    clear X0 X7 O Ob dk hb A1 dd
    by_cases hlt : k < m.length
    · have hlt' : (k : Int) < (m.length : Int) := by omega
      obtain ⟨bs, off, K, A, T, u, ks, rfl, hs, hTm, hu, c0, c1, c2, c3⟩ := (R.out.below HB.out).at k hlt
      obtain ⟨ua, uc, rfl, _, _⟩ := hu.sl
      have dk := HD.out
      obtain ⟨ap, cp, ah, ch, ab, cb, rfl, rfl, rfl⟩ := dk.sl
      clear dk
      have hr : totX (m.take k) + (T.size + ks.length) ≤ totX m := by
        have hr := totX_row_le m k hlt
        rw [hs] at hr
        exact hr
      have hzz := HZ.out
      have bT : T.size ≤ 1048576 := by omega
      clear hr hzz
      obtain ⟨z, hy⟩ : ∃ z, f k = z := ⟨_, rfl⟩
      have HY := hide hy
      obtain ⟨nl, hnl⟩ : ∃ nl, nl = (plD f D m k).1.length := ⟨_, rfl⟩
      have gd := (GD.out k).1
      have LP : Hid ((plD f D m k).1.length = nl) := hnl.symm
      have LH : Hid ((plD f D m k).2.1.length = nl) := gd.2.1.trans hnl.symm
      have LB : Hid ((plD f D m k).2.2.length = nl) := gd.2.2.1.trans hnl.symm
      have nn : 0 < nl ∧ nl ≤ 24 := by have := gd.1; omega
      have H28 : Hid (∀ i, i < (plD f D m k).1.length → ((plD f D m k).1.getD i ⟨#[]⟩).size ≤ 28) := gd.2.2.2.1
      have HK : Hid (z = true ↔ stOk (plD f D m k).1 (plD f D m k).2.1 (plD f D m k).2.2 nl K A T ks) := by
        show _ ↔ _
        rw [← HY.out, HF.out k, hs, hnl]
        exact Iff.rfl
      have NXT : Hid (z = true → plD f D m (k + 1) = (stP (plD f D m k).1 (plD f D m k).2.1 nl K A T ks, stH (plD f D m k).2.1 K A T, stB (plD f D m k).2.2 K A)) := by
        intro hh
        show stepD (f k) _ _ = _
        rw [HY.out, hh, hs, hnl]
        rfl
      have HU := hide hu
      clear hy hs hu gd hnl
      obtain ⟨E, hE⟩ : ∃ E, E = plD f D m k := ⟨_, rfl⟩
      have HE := hide hE
      rw [← hE] at HD HK NXT HX7 LP LH LB H28
      clear hE
      have bb := below_box wr (.cells #[.int .i64 K, .int .i64 A, .string T, .slice ua ks.length uc] 44)
      have Y0 := hide (HX0.out.below bb)
      have Y7 := hide (HX7.out.below bb)
      have YS := hide (BoxAt.new wr #[.int .i64 K, .int .i64 A, .string T, .slice ua ks.length uc] 44)
      have YO := hide (ownsRow_below HO.out bb)
      have YT := hide (fun j hj => Nat.lt_of_lt_of_le (row_top HO.out j hj) bb.size)
      have YD0 := hide (HD.out.below bb)
      have YU0 := hide (HU.out.below bb)
      have YB := hide (HB.out.trans (bb.mono HB.out.size))
      have sb : wr.heap.size < (wr.alloc (.cells #[.int .i64 K, .int .i64 A, .string T, .slice ua ks.length uc] 44)).heap.size := YS.out.lt
      clear bb HX0 HX7 HO HD HU HB
      go_upto_region 8 with fail
      generalize wr.alloc (.cells #[.int .i64 K, .int .i64 A, .string T, .slice ua ks.length uc] 44) = W1 at *
      clear c0 c1 c2 c3
      have F0 : Hid (∀ w', Below W1.heap.size W1 w' → (fun w' => (w'.cell? ⟨w1.heap.size, 0, none⟩ = some (.slice ap E.1.length cp) ∧ w'.cell? ⟨w1.heap.size, 1, none⟩ = some (.slice ah E.2.1.length ch) ∧ w'.cell? ⟨w1.heap.size, 2, none⟩ = some (.slice ab E.2.2.length cb)) ∧ (w'.cell? ⟨wr.heap.size, 0, none⟩ = some (.int .i64 K) ∧ w'.cell? ⟨wr.heap.size, 1, none⟩ = some (.int .i64 A) ∧ w'.cell? ⟨wr.heap.size, 2, none⟩ = some (.string T) ∧ w'.cell? ⟨wr.heap.size, 3, none⟩ = some (.slice ua ks.length uc))) w') := fun w' hb => ⟨(Y7.out.below hb).c3, (YS.out.below hb).c4⟩
      go_cut [12, 13] (fun s1 s2 wx => ∃ g ap2 cp2 ah2 ch2 ab2 cb2, s1 = .pointer (some ⟨g, 0, none⟩) ∧ s2 = .bool z ∧ BoxAt wx g #[.slice ap2 E.1.length cp2, .slice ah2 E.2.1.length ch2, .slice ab2 E.2.2.length cb2] 25 ∧ (z = true → DskV wx W1.heap.size wx.heap.size (.slice ap2 E.1.length cp2) (.slice ah2 E.2.1.length ch2) (.slice ab2 E.2.2.length cb2) (stP E.1 E.2.1 nl K A T ks) (stH E.2.1 K A T) (stB E.2.2 K A)) ∧ Below W1.heap.size W1 wx)
      case first =>
        refine wp_region_noPanic ?_
        refine wp_region_held_drew (S := fun w' => (w'.cell? ⟨w1.heap.size, 0, none⟩ = some (.slice ap E.1.length cp) ∧ w'.cell? ⟨w1.heap.size, 1, none⟩ = some (.slice ah E.2.1.length ch) ∧ w'.cell? ⟨w1.heap.size, 2, none⟩ = some (.slice ab E.2.2.length cb)) ∧ (w'.cell? ⟨wr.heap.size, 0, none⟩ = some (.int .i64 K) ∧ w'.cell? ⟨wr.heap.size, 1, none⟩ = some (.int .i64 A) ∧ w'.cell? ⟨wr.heap.size, 2, none⟩ = some (.string T) ∧ w'.cell? ⟨wr.heap.size, 3, none⟩ = some (.slice ua ks.length uc))) (by kernel_rfl) (F0.out _ (Below.refl _ _).drew) (fun hHeld => ?_)
        have W1_below : Below W1.heap.size W1 W1.drew := (Below.refl _ _).drew
        have YD := hide (YD0.out.below W1_below)
        have YU := hide (YU0.out.below W1_below)
        have F : Hid (∀ w', Below W1.drew.heap.size W1.drew w' → (fun w' => (w'.cell? ⟨w1.heap.size, 0, none⟩ = some (.slice ap E.1.length cp) ∧ w'.cell? ⟨w1.heap.size, 1, none⟩ = some (.slice ah E.2.1.length ch) ∧ w'.cell? ⟨w1.heap.size, 2, none⟩ = some (.slice ab E.2.2.length cb)) ∧ (w'.cell? ⟨wr.heap.size, 0, none⟩ = some (.int .i64 K) ∧ w'.cell? ⟨wr.heap.size, 1, none⟩ = some (.int .i64 A) ∧ w'.cell? ⟨wr.heap.size, 2, none⟩ = some (.string T) ∧ w'.cell? ⟨wr.heap.size, 3, none⟩ = some (.slice ua ks.length uc))) w') := fun w' hb => F0.out _ (W1_below.trans (hb.mono W1_below.size))
        have G0 := hide (Hand.start W1.drew)
        generalize W1.drew = u0_ at *
        refine wpAnyH_take (i := 0) (v := ?v1) rfl (by kernel_rfl) (by kernel_rfl) (by kernel_rfl) (fun _ _ _ h => h) (Or.inl ⟨by rfl, ?hy1⟩) (by assumption) ?rest1
        case hy1 => (intro w' hSw; dsimp only [List.getElem_toArray, List.getElem_cons_zero, List.getElem_cons_succ] at hSw ⊢; go_simp; try (with_reducible rfl))
        try simp only [Act.put, List.getElem_toArray, List.getElem_cons_zero, List.getElem_cons_succ, List.setIfInBounds_toArray, List.set_cons_zero, List.set_cons_succ]
        refine wpAnyH_take (i := 2) (v := ?v2) rfl (by kernel_rfl) (by kernel_rfl) (by kernel_rfl) (fun _ _ _ h => h) (Or.inl ⟨by rfl, ?hy2⟩) (by assumption) ?rest2
        case hy2 => (intro w' hSw; dsimp only [List.getElem_toArray, List.getElem_cons_zero, List.getElem_cons_succ] at hSw ⊢; go_simp; try (with_reducible rfl))
        try simp only [Act.put, List.getElem_toArray, List.getElem_cons_zero, List.getElem_cons_succ, List.setIfInBounds_toArray, List.set_cons_zero, List.set_cons_succ]
        refine wpAnyH_ready (rs := [1, 7]) (by kernel_rfl) (by simp) ?_
        refine AllReadyH.cons rfl (fun KK hK => ?_) (AllReadyH.cons rfl (fun KK hK => ?_) (AllReadyH.nil))
        · dsimp only [List.getElem_toArray, List.getElem_cons_zero, List.getElem_cons_succ]
          go_simp
          refine (l7Own_calls _ _ _ E.1 E.2.1 E.2.2 _ (YD.out.below G0.out.below).rp (YD.out.below G0.out.below).rh (YD.out.below G0.out.below).rb (by rw [LP.out]; exact nn) (by rw [LH.out]; exact nn) (by rw [LB.out]; exact nn)).mono ?_
          rintro e' u1_ ⟨p2, h2, b2, rfl, d, q⟩
          obtain ⟨ap2, cp2, ah2, ch2, ab2, cb2, rfl, rfl, rfl⟩ := d.sl
          have G1 := hide (G0.out.add q (TDsk.st _ _ _ _ _ _) d)
          clear q d hHeld G0
          refine hK.out _ _ (F.out _ G1.out.below) (fun hHeld => ?_)
          clear hK KK
          try simp only [Act.put, List.getElem_toArray, List.getElem_cons_zero, List.getElem_cons_succ, List.setIfInBounds_toArray, List.set_cons_zero, List.set_cons_succ]
          refine wpAnyH_ready (rs := [3, 7]) (by kernel_rfl) (by simp) ?_
          refine AllReadyH.cons rfl (fun KK hK => ?_) (AllReadyH.cons rfl (fun KK hK => ?_) (AllReadyH.nil))
          · obtain ⟨lo, hi, d2, lw, hw, put⟩ := G1.out.open 0 rfl
            have D2 : Hid (DskV _ lo hi _ _ _ E.1 E.2.1 E.2.2) := d2
            have PUT := hide put
            clear d2 put
            dsimp only [List.getElem_toArray, List.getElem_cons_zero, List.getElem_cons_succ]
            go_simp
            refine (l7Step_calls _ _ _ _ E.1 E.2.1 E.2.2 K A T ks lo hi nl z _ D2.out hw LP.out LH.out LB.out nn (fun w' hc => YU.out.below (G1.out.below.trans (hc.below lw G1.out.below.size))) HK.out bT H28.out).mono ?_
            rintro e' u2_ ⟨rfl, d3, c3⟩
            have G2 := hide (PUT.out u2_ (TIf z (TDsk _ _ _ _ _ _)) (TIf.st _ (TDsk.st _ _ _ _ _ _)) d3 c3)
            clear d3 c3 D2 PUT lw hw lo hi hHeld G1
            refine hK.out _ _ (F.out _ G2.out.below) (fun hHeld => ?_)
            clear hK KK
            try simp only [Act.put, List.getElem_toArray, List.getElem_cons_zero, List.getElem_cons_succ, List.setIfInBounds_toArray, List.set_cons_zero, List.set_cons_succ]
            refine wpAnyH_take (i := 4) (v := ?v3) rfl (by kernel_rfl) (by kernel_rfl) (by kernel_rfl) (fun _ _ _ h => h) (Or.inl ⟨by rfl, ?hy3⟩) (by assumption) ?rest3
            case hy3 => (intro w' hSw; dsimp only [List.getElem_toArray, List.getElem_cons_zero, List.getElem_cons_succ] at hSw ⊢; go_simp; try (with_reducible rfl))
            try simp only [Act.put, List.getElem_toArray, List.getElem_cons_zero, List.getElem_cons_succ, List.setIfInBounds_toArray, List.set_cons_zero, List.set_cons_succ]
            refine wpAnyH_take (i := 5) (v := ?v4) rfl (by kernel_rfl) (by kernel_rfl) (by kernel_rfl) (fun _ _ _ h => h) (Or.inl ⟨by rfl, ?hy4⟩) (by assumption) ?rest4
            case hy4 => (intro w' hSw; dsimp only [List.getElem_toArray, List.getElem_cons_zero, List.getElem_cons_succ] at hSw ⊢; go_simp; try (with_reducible rfl))
            try simp only [Act.put, List.getElem_toArray, List.getElem_cons_zero, List.getElem_cons_succ, List.setIfInBounds_toArray, List.set_cons_zero, List.set_cons_succ]
            refine wpAnyH_take (i := 6) (v := ?v5) rfl (by kernel_rfl) (by kernel_rfl) (by kernel_rfl) (fun _ _ _ h => h) (Or.inl ⟨by rfl, ?hy5⟩) (by assumption) ?rest5
            case hy5 => (intro w' hSw; dsimp only [List.getElem_toArray, List.getElem_cons_zero, List.getElem_cons_succ] at hSw ⊢; go_simp; try (with_reducible rfl))
            try simp only [Act.put, List.getElem_toArray, List.getElem_cons_zero, List.getElem_cons_succ, List.setIfInBounds_toArray, List.set_cons_zero, List.set_cons_succ]
            refine wpAnyH_ready (rs := [7]) (by kernel_rfl) (by simp) ?_
            refine AllReadyH.cons rfl (fun KK hK => ?_) (AllReadyH.nil)
            dsimp only [List.getElem_toArray, List.getElem_cons_zero, List.getElem_cons_succ]
            go_simp
            have G3 := hide (G2.out.box #[.slice none 0 0, .slice none 0 0, .slice none 0 0] 25)
            obtain ⟨g6, hg6⟩ : ∃ g6, g6 = u2_.heap.size := ⟨_, rfl⟩
            rw [← hg6] at G3 ⊢
            clear hg6
            generalize u2_.alloc (.cells #[.slice none 0 0, .slice none 0 0, .slice none 0 0] 25) = u3_ at G3 ⊢
            clear hHeld G2
            refine hK.out _ _ (F.out _ G3.out.below) (fun hHeld => ?_)
            clear hK KK
            try simp only [Act.put, List.getElem_toArray, List.getElem_cons_zero, List.getElem_cons_succ, List.setIfInBounds_toArray, List.set_cons_zero, List.set_cons_succ]
            refine wpAnyH_ready (rs := [8]) (by kernel_rfl) (by simp) ?_
            refine AllReadyH.cons rfl (fun KK hK => ?_) AllReadyH.nil
            have xr := G3.out.atBox 0 rfl
            obtain ⟨d0, d1, d2⟩ := xr.c3
            have g0 := xr.frozen 0
            have g1 := xr.frozen 1
            have g2 := xr.frozen 2
            have G4 := hide (G3.out.store3 0 rfl (.slice ap2 E.1.length cp2) (.slice ah2 E.2.1.length ch2) (.slice ab2 E.2.2.length cb2))
            dsimp only [List.getElem_toArray, List.getElem_cons_zero, List.getElem_cons_succ]
            go_simp
            clear xr d0 d1 d2 g0 g1 g2 hHeld G3
            refine hK.out _ _ (F.out _ G4.out.below) (fun hHeld => ?_)
            clear hK KK
            try simp only [Act.put, List.getElem_toArray, List.getElem_cons_zero, List.getElem_cons_succ, List.setIfInBounds_toArray, List.set_cons_zero, List.set_cons_succ]
            refine wpAnyH_ready (rs := [9]) (by kernel_rfl) (by simp) ?_
            refine AllReadyH.cons rfl (fun KK hK => ?_) AllReadyH.nil
            dsimp only [List.getElem_toArray, List.getElem_cons_zero, List.getElem_cons_succ]
            go_simp
            refine hK.out _ _ (F.out _ G4.out.below) (fun hHeld => ?_)
            clear hK KK
            try simp only [Act.put, List.getElem_toArray, List.getElem_cons_zero, List.getElem_cons_succ, List.setIfInBounds_toArray, List.set_cons_zero, List.set_cons_succ]
            refine wpAnyH_done (by kernel_rfl) ?_ _
            refine NoPanic.normal ?_
            clear hHeld
            go_wp2_with fail
            go_meet
            exact ⟨_, _, _, _, _, _, _, rfl, rfl, G4.out.atBox 0 rfl, fun e => (G4.out.wideIf 1 rfl e).wider W1_below.size (Nat.le_refl _), W1_below.trans (G4.out.below.mono W1_below.size)⟩
          · dsimp only [List.getElem_toArray, List.getElem_cons_zero, List.getElem_cons_succ]
            go_simp
            have G5 := hide (G1.out.box #[.slice none 0 0, .slice none 0 0, .slice none 0 0] 25)
            obtain ⟨g6, hg6⟩ : ∃ g6, g6 = u1_.heap.size := ⟨_, rfl⟩
            rw [← hg6] at G5 ⊢
            clear hg6
            generalize u1_.alloc (.cells #[.slice none 0 0, .slice none 0 0, .slice none 0 0] 25) = u5_ at G5 ⊢
            clear hHeld G1
            refine hK.out _ _ (F.out _ G5.out.below) (fun hHeld => ?_)
            clear hK KK
            try simp only [Act.put, List.getElem_toArray, List.getElem_cons_zero, List.getElem_cons_succ, List.setIfInBounds_toArray, List.set_cons_zero, List.set_cons_succ]
            refine wpAnyH_ready (rs := [3]) (by kernel_rfl) (by simp) ?_
            refine AllReadyH.cons rfl (fun KK hK => ?_) (AllReadyH.nil)
            obtain ⟨lo, hi, d2, lw, hw, put⟩ := G5.out.open 1 rfl
            have D2 : Hid (DskV _ lo hi _ _ _ E.1 E.2.1 E.2.2) := d2
            have PUT := hide put
            clear d2 put
            dsimp only [List.getElem_toArray, List.getElem_cons_zero, List.getElem_cons_succ]
            go_simp
            refine (l7Step_calls _ _ _ _ E.1 E.2.1 E.2.2 K A T ks lo hi nl z _ D2.out hw LP.out LH.out LB.out nn (fun w' hc => YU.out.below (G5.out.below.trans (hc.below lw G5.out.below.size))) HK.out bT H28.out).mono ?_
            rintro e' u6_ ⟨rfl, d3, c3⟩
            have G6 := hide (PUT.out u6_ (TIf z (TDsk _ _ _ _ _ _)) (TIf.st _ (TDsk.st _ _ _ _ _ _)) d3 c3)
            clear d3 c3 D2 PUT lw hw lo hi hHeld G5
            refine hK.out _ _ (F.out _ G6.out.below) (fun hHeld => ?_)
            clear hK KK
            try simp only [Act.put, List.getElem_toArray, List.getElem_cons_zero, List.getElem_cons_succ, List.setIfInBounds_toArray, List.set_cons_zero, List.set_cons_succ]
            refine wpAnyH_take (i := 4) (v := ?v6) rfl (by kernel_rfl) (by kernel_rfl) (by kernel_rfl) (fun _ _ _ h => h) (Or.inl ⟨by rfl, ?hy6⟩) (by assumption) ?rest6
            case hy6 => (intro w' hSw; dsimp only [List.getElem_toArray, List.getElem_cons_zero, List.getElem_cons_succ] at hSw ⊢; go_simp; try (with_reducible rfl))
            try simp only [Act.put, List.getElem_toArray, List.getElem_cons_zero, List.getElem_cons_succ, List.setIfInBounds_toArray, List.set_cons_zero, List.set_cons_succ]
            refine wpAnyH_take (i := 5) (v := ?v7) rfl (by kernel_rfl) (by kernel_rfl) (by kernel_rfl) (fun _ _ _ h => h) (Or.inl ⟨by rfl, ?hy7⟩) (by assumption) ?rest7
            case hy7 => (intro w' hSw; dsimp only [List.getElem_toArray, List.getElem_cons_zero, List.getElem_cons_succ] at hSw ⊢; go_simp; try (with_reducible rfl))
            try simp only [Act.put, List.getElem_toArray, List.getElem_cons_zero, List.getElem_cons_succ, List.setIfInBounds_toArray, List.set_cons_zero, List.set_cons_succ]
            refine wpAnyH_take (i := 6) (v := ?v8) rfl (by kernel_rfl) (by kernel_rfl) (by kernel_rfl) (fun _ _ _ h => h) (Or.inl ⟨by rfl, ?hy8⟩) (by assumption) ?rest8
            case hy8 => (intro w' hSw; dsimp only [List.getElem_toArray, List.getElem_cons_zero, List.getElem_cons_succ] at hSw ⊢; go_simp; try (with_reducible rfl))
            try simp only [Act.put, List.getElem_toArray, List.getElem_cons_zero, List.getElem_cons_succ, List.setIfInBounds_toArray, List.set_cons_zero, List.set_cons_succ]
            refine wpAnyH_ready (rs := [8]) (by kernel_rfl) (by simp) ?_
            refine AllReadyH.cons rfl (fun KK hK => ?_) AllReadyH.nil
            have xr := G6.out.atBox 0 rfl
            obtain ⟨d0, d1, d2⟩ := xr.c3
            have g0 := xr.frozen 0
            have g1 := xr.frozen 1
            have g2 := xr.frozen 2
            have G7 := hide (G6.out.store3 0 rfl (.slice ap2 E.1.length cp2) (.slice ah2 E.2.1.length ch2) (.slice ab2 E.2.2.length cb2))
            dsimp only [List.getElem_toArray, List.getElem_cons_zero, List.getElem_cons_succ]
            go_simp
            clear xr d0 d1 d2 g0 g1 g2 hHeld G6
            refine hK.out _ _ (F.out _ G7.out.below) (fun hHeld => ?_)
            clear hK KK
            try simp only [Act.put, List.getElem_toArray, List.getElem_cons_zero, List.getElem_cons_succ, List.setIfInBounds_toArray, List.set_cons_zero, List.set_cons_succ]
            refine wpAnyH_ready (rs := [9]) (by kernel_rfl) (by simp) ?_
            refine AllReadyH.cons rfl (fun KK hK => ?_) AllReadyH.nil
            dsimp only [List.getElem_toArray, List.getElem_cons_zero, List.getElem_cons_succ]
            go_simp
            refine hK.out _ _ (F.out _ G7.out.below) (fun hHeld => ?_)
            clear hK KK
            try simp only [Act.put, List.getElem_toArray, List.getElem_cons_zero, List.getElem_cons_succ, List.setIfInBounds_toArray, List.set_cons_zero, List.set_cons_succ]
            refine wpAnyH_done (by kernel_rfl) ?_ _
            refine NoPanic.normal ?_
            clear hHeld
            go_wp2_with fail
            go_meet
            exact ⟨_, _, _, _, _, _, _, rfl, rfl, G7.out.atBox 0 rfl, fun e => (G7.out.wideIf 1 rfl e).wider W1_below.size (Nat.le_refl _), W1_below.trans (G7.out.below.mono W1_below.size)⟩
        · dsimp only [List.getElem_toArray, List.getElem_cons_zero, List.getElem_cons_succ]
          go_simp
          have G8 := hide (G0.out.box #[.slice none 0 0, .slice none 0 0, .slice none 0 0] 25)
          obtain ⟨g6, hg6⟩ : ∃ g6, g6 = u0_.heap.size := ⟨_, rfl⟩
          rw [← hg6] at G8 ⊢
          clear hg6
          generalize u0_.alloc (.cells #[.slice none 0 0, .slice none 0 0, .slice none 0 0] 25) = u8_ at G8 ⊢
          clear hHeld G0
          refine hK.out _ _ (F.out _ G8.out.below) (fun hHeld => ?_)
          clear hK KK
          try simp only [Act.put, List.getElem_toArray, List.getElem_cons_zero, List.getElem_cons_succ, List.setIfInBounds_toArray, List.set_cons_zero, List.set_cons_succ]
          refine wpAnyH_ready (rs := [1]) (by kernel_rfl) (by simp) ?_
          refine AllReadyH.cons rfl (fun KK hK => ?_) (AllReadyH.nil)
          dsimp only [List.getElem_toArray, List.getElem_cons_zero, List.getElem_cons_succ]
          go_simp
          refine (l7Own_calls _ _ _ E.1 E.2.1 E.2.2 _ (YD.out.below G8.out.below).rp (YD.out.below G8.out.below).rh (YD.out.below G8.out.below).rb (by rw [LP.out]; exact nn) (by rw [LH.out]; exact nn) (by rw [LB.out]; exact nn)).mono ?_
          rintro e' u9_ ⟨p2, h2, b2, rfl, d, q⟩
          obtain ⟨ap2, cp2, ah2, ch2, ab2, cb2, rfl, rfl, rfl⟩ := d.sl
          have G9 := hide (G8.out.add q (TDsk.st _ _ _ _ _ _) d)
          clear q d hHeld G8
          refine hK.out _ _ (F.out _ G9.out.below) (fun hHeld => ?_)
          clear hK KK
          try simp only [Act.put, List.getElem_toArray, List.getElem_cons_zero, List.getElem_cons_succ, List.setIfInBounds_toArray, List.set_cons_zero, List.set_cons_succ]
          refine wpAnyH_ready (rs := [3]) (by kernel_rfl) (by simp) ?_
          refine AllReadyH.cons rfl (fun KK hK => ?_) (AllReadyH.nil)
          obtain ⟨lo, hi, d2, lw, hw, put⟩ := G9.out.open 0 rfl
          have D2 : Hid (DskV _ lo hi _ _ _ E.1 E.2.1 E.2.2) := d2
          have PUT := hide put
          clear d2 put
          dsimp only [List.getElem_toArray, List.getElem_cons_zero, List.getElem_cons_succ]
          go_simp
          refine (l7Step_calls _ _ _ _ E.1 E.2.1 E.2.2 K A T ks lo hi nl z _ D2.out hw LP.out LH.out LB.out nn (fun w' hc => YU.out.below (G9.out.below.trans (hc.below lw G9.out.below.size))) HK.out bT H28.out).mono ?_
          rintro e' u10_ ⟨rfl, d3, c3⟩
          have G10 := hide (PUT.out u10_ (TIf z (TDsk _ _ _ _ _ _)) (TIf.st _ (TDsk.st _ _ _ _ _ _)) d3 c3)
          clear d3 c3 D2 PUT lw hw lo hi hHeld G9
          refine hK.out _ _ (F.out _ G10.out.below) (fun hHeld => ?_)
          clear hK KK
          try simp only [Act.put, List.getElem_toArray, List.getElem_cons_zero, List.getElem_cons_succ, List.setIfInBounds_toArray, List.set_cons_zero, List.set_cons_succ]
          refine wpAnyH_take (i := 4) (v := ?v9) rfl (by kernel_rfl) (by kernel_rfl) (by kernel_rfl) (fun _ _ _ h => h) (Or.inl ⟨by rfl, ?hy9⟩) (by assumption) ?rest9
          case hy9 => (intro w' hSw; dsimp only [List.getElem_toArray, List.getElem_cons_zero, List.getElem_cons_succ] at hSw ⊢; go_simp; try (with_reducible rfl))
          try simp only [Act.put, List.getElem_toArray, List.getElem_cons_zero, List.getElem_cons_succ, List.setIfInBounds_toArray, List.set_cons_zero, List.set_cons_succ]
          refine wpAnyH_take (i := 5) (v := ?v10) rfl (by kernel_rfl) (by kernel_rfl) (by kernel_rfl) (fun _ _ _ h => h) (Or.inl ⟨by rfl, ?hy10⟩) (by assumption) ?rest10
          case hy10 => (intro w' hSw; dsimp only [List.getElem_toArray, List.getElem_cons_zero, List.getElem_cons_succ] at hSw ⊢; go_simp; try (with_reducible rfl))
          try simp only [Act.put, List.getElem_toArray, List.getElem_cons_zero, List.getElem_cons_succ, List.setIfInBounds_toArray, List.set_cons_zero, List.set_cons_succ]
          refine wpAnyH_take (i := 6) (v := ?v11) rfl (by kernel_rfl) (by kernel_rfl) (by kernel_rfl) (fun _ _ _ h => h) (Or.inl ⟨by rfl, ?hy11⟩) (by assumption) ?rest11
          case hy11 => (intro w' hSw; dsimp only [List.getElem_toArray, List.getElem_cons_zero, List.getElem_cons_succ] at hSw ⊢; go_simp; try (with_reducible rfl))
          try simp only [Act.put, List.getElem_toArray, List.getElem_cons_zero, List.getElem_cons_succ, List.setIfInBounds_toArray, List.set_cons_zero, List.set_cons_succ]
          refine wpAnyH_ready (rs := [8]) (by kernel_rfl) (by simp) ?_
          refine AllReadyH.cons rfl (fun KK hK => ?_) AllReadyH.nil
          have xr := G10.out.atBox 1 rfl
          obtain ⟨d0, d1, d2⟩ := xr.c3
          have g0 := xr.frozen 0
          have g1 := xr.frozen 1
          have g2 := xr.frozen 2
          have G11 := hide (G10.out.store3 1 rfl (.slice ap2 E.1.length cp2) (.slice ah2 E.2.1.length ch2) (.slice ab2 E.2.2.length cb2))
          dsimp only [List.getElem_toArray, List.getElem_cons_zero, List.getElem_cons_succ]
          go_simp
          clear xr d0 d1 d2 g0 g1 g2 hHeld G10
          refine hK.out _ _ (F.out _ G11.out.below) (fun hHeld => ?_)
          clear hK KK
          try simp only [Act.put, List.getElem_toArray, List.getElem_cons_zero, List.getElem_cons_succ, List.setIfInBounds_toArray, List.set_cons_zero, List.set_cons_succ]
          refine wpAnyH_ready (rs := [9]) (by kernel_rfl) (by simp) ?_
          refine AllReadyH.cons rfl (fun KK hK => ?_) AllReadyH.nil
          dsimp only [List.getElem_toArray, List.getElem_cons_zero, List.getElem_cons_succ]
          go_simp
          refine hK.out _ _ (F.out _ G11.out.below) (fun hHeld => ?_)
          clear hK KK
          try simp only [Act.put, List.getElem_toArray, List.getElem_cons_zero, List.getElem_cons_succ, List.setIfInBounds_toArray, List.set_cons_zero, List.set_cons_succ]
          refine wpAnyH_done (by kernel_rfl) ?_ _
          refine NoPanic.normal ?_
          clear hHeld
          go_wp2_with fail
          go_meet
          exact ⟨_, _, _, _, _, _, _, rfl, rfl, G11.out.atBox 1 rfl, fun e => (G11.out.wideIf 0 rfl e).wider W1_below.size (Nat.le_refl _), W1_below.trans (G11.out.below.mono W1_below.size)⟩
      case rest =>
      obtain ⟨g, ap2, cp2, ah2, ch2, ab2, cb2, rfl, rfl, bx, dz, bq⟩ := hcut
      generalize wc = wx at *
      have Z0 := hide (Y0.out.below bq)
      have Z7 := hide (Y7.out.below bq)
      have ZO := hide (ownsRow_below YO.out bq)
      have ZD := hide (YD0.out.below bq)
      have ZB := hide (YB.out.trans (bq.mono YB.out.size))
      have ZX := hide bx
      have ZN := hide dz
      have sq := bq.size
      clear bx dz bq Y0 Y7 YS YO YD0 YU0 YB F0 HK
      obtain ⟨av9, cv9, ev9⟩ := row_slice ZO.out
      rw [dn_len] at ev9
      subst ev9
      have h80 : k ≤ 80 := by omega
      cases z with
      | false =>
        have Q0 := Z0
        have Q7 := Z7
        have QO : Hid (wx.ownsRow (w1.heap.size + 1) 4 1 (.slice av9 k cv9) k ((dn f k k).map Value.bool)) := by
          have t := ZO.out
          unfold OwnZ at t
          rw [dn_len] at t
          exact t
        have QD : Hid (DskV wx x y (.slice ap E.1.length cp) (.slice ah E.2.1.length ch) (.slice ab E.2.2.length cb) (plD f D m (k + 1)).1 (plD f D m (k + 1)).2.1 (plD f D m (k + 1)).2.2) := by
          show DskV _ _ _ _ _ _ _ _ _
          rw [plD_no HY.out, ← HE.out]
          exact ZD.out
        have QB := ZB
        have QS := HOB
        clear Z0 Z7 ZO ZD ZB HOB ZN ZX
        go_upto_region 11 with fail
        have O3 : Hid ((wx.alloc (.cells #[.bool false] 4)).ownsRow (w1.heap.size + 1) 4 1 (.slice av9 k cv9) k ((dn f k k).map Value.bool)) := QO.out.alloc (.cells #[.bool false] 4)
        have b5 := below_box wx (.cells #[.bool false] 4)
        have E0 := hide (Q0.out.below b5)
        have E7 := hide (Q7.out.below b5)
        have ED := hide (QD.out.below b5)
        have EB := hide (QB.out.trans (b5.mono QB.out.size))
        have s5 : (wx.alloc (.cells #[.bool false] 4)).heap.size = wx.heap.size + 1 := by simp
        have S5 := hide s5
        have hc5 : (wx.alloc (.cells #[.bool false] 4)).cell? ⟨wx.heap.size, 0, none⟩ = some (.bool false) := by
          rw [cell_of_row _ wx.heap.size 0 _ _ _ (heap_alloc_new wx _)]
          rfl
        have HC5 := hide hc5
        clear b5 s5 hc5
        go_wp2_with (at_builtin; refine wpList_append_bol rfl _ _ rfl (w1.heap.size + 1) _ k (dn f k k) false rfl O3.out _ rfl HC5.out (by omega) (by have := S5.out; omega) ?_)
        intro g9 cap9 w5 o5 g5 hat hlt5
        obtain ⟨ca, cb', hc, hcs⟩ := grown_chg g5
        have hcs2 : (w1.heap.size + 1 ≤ ca ∧ cb' = ca + 1 ∧ (ca < x ∨ y ≤ ca)) ∨ (ca = (wx.alloc (.cells #[.bool false] 4)).heap.size ∧ cb' = ca) := by
          rcases hcs with ⟨e, rfl⟩ | ⟨_, rfl, rfl⟩
          · exact .inl ⟨(World.ownsRow.lt O3.out _ e).1, rfl, QS.out _ e⟩
          · exact .inr ⟨rfl, rfl⟩
        have hsz := S5.out
        have R0 := hide (E0.out.chg hc (by omega))
        have R7 := hide (E7.out.chg hc (by omega))
        have RD := hide (ED.out.chg hc (by omega))
        have RBl := hide (EB.out.trans (hc.below (by omega) (by omega)))
        have RS : Hid (∀ j, (Value.slice (some ⟨g9, 0, none⟩) (k + 1) cap9).ownBlock = some j → j < x ∨ y ≤ j) := by
          intro j hj
          have hj' : g9 = j := by simpa [Value.ownBlock] using hj
          rcases hat with e | e
          · have := QS.out _ e
            omega
          · omega
        have RO : Hid (OwnZ w5 (w1.heap.size + 1) (.slice (some ⟨g9, 0, none⟩) (k + 1) cap9) (dn f (k + 1) (k + 1))) := by
          show OwnZ _ _ _ _
          unfold OwnZ
          rw [← dn_app, HY.out, List.length_append, dn_len, List.map_append]
          exact o5
        have z5 := hc.size
        clear hc hcs hcs2 hat o5 g5 O3 E0 E7 ED EB Q0 Q7 QD QB QO QS HC5
        go_wp2
        go_roundw
        case rel => exact ⟨k + 1, _, _, _, x, y, by omega, by go_num, R0.out, R7.out, ⟨RO.out, RS.out⟩, RD.out, ⟨by omega, by omega, by omega⟩, RBl.out⟩
        case measure => simp [intOf]; omega
      | true =>
        obtain ⟨f0, f1, f2⟩ := ZX.out.c3
        obtain ⟨j0, j1, j2⟩ := Z7.out.c3
        have i0 := Z7.out.frozen 0
        have i1 := Z7.out.frozen 1
        have i2 := Z7.out.frozen 2
        have hc7 : Chg w1.heap.size (w1.heap.size + 1) wx (((wx.setCell ⟨w1.heap.size, 0, none⟩ (.slice ap2 E.1.length cp2)).setCell ⟨w1.heap.size, 1, none⟩ (.slice ah2 E.2.1.length ch2)).setCell ⟨w1.heap.size, 2, none⟩ (.slice ab2 E.2.2.length cb2)) := Chg.store3 wx w1.heap.size _ _ _ (Nat.le_refl _) (by omega)
        have Q7 := hide (Z7.out.store3 (.slice ap2 E.1.length cp2) (.slice ah2 E.2.1.length ch2) (.slice ab2 E.2.2.length cb2))
        have Q0 := hide (Z0.out.chg hc7 (.inl (by omega)))
        have QO : Hid ((((wx.setCell ⟨w1.heap.size, 0, none⟩ (.slice ap2 E.1.length cp2)).setCell ⟨w1.heap.size, 1, none⟩ (.slice ah2 E.2.1.length ch2)).setCell ⟨w1.heap.size, 2, none⟩ (.slice ab2 E.2.2.length cb2)).ownsRow (w1.heap.size + 1) 4 1 (.slice av9 k cv9) k ((dn f k k).map Value.bool)) := by
          have t := ownsRow_chg ZO.out (row_top ZO.out) hc7 (.inr (by omega))
          rw [dn_len] at t
          exact t
        have QD : Hid (DskV (((wx.setCell ⟨w1.heap.size, 0, none⟩ (.slice ap2 E.1.length cp2)).setCell ⟨w1.heap.size, 1, none⟩ (.slice ah2 E.2.1.length ch2)).setCell ⟨w1.heap.size, 2, none⟩ (.slice ab2 E.2.2.length cb2)) W1.heap.size wx.heap.size (.slice ap2 E.1.length cp2) (.slice ah2 E.2.1.length ch2) (.slice ab2 E.2.2.length cb2) (plD f D m (k + 1)).1 (plD f D m (k + 1)).2.1 (plD f D m (k + 1)).2.2) := by
          show DskV _ _ _ _ _ _ _ _ _
          rw [NXT.out rfl]
          exact (ZN.out rfl).chg hc7 (.inr (by omega))
        have QB := hide (ZB.out.trans (hc7.below (by omega) (by have := ZB.out.size; omega)))
        have QS : Hid (∀ j, (Value.slice av9 k cv9).ownBlock = some j → j < W1.heap.size ∨ wx.heap.size ≤ j) := fun j hj => .inl (YT.out j hj)
        have z7 := hc7.size
        clear hc7 Z0 Z7 ZO ZD ZB ZN
        go_upto_region 11 with fail
        clear f0 f1 f2 j0 j1 j2 i0 i1 i2
        generalize (((wx.setCell ⟨w1.heap.size, 0, none⟩ (.slice ap2 E.1.length cp2)).setCell ⟨w1.heap.size, 1, none⟩ (.slice ah2 E.2.1.length ch2)).setCell ⟨w1.heap.size, 2, none⟩ (.slice ab2 E.2.2.length cb2)) = wy at *
        have O3 : Hid ((wy.alloc (.cells #[.bool true] 4)).ownsRow (w1.heap.size + 1) 4 1 (.slice av9 k cv9) k ((dn f k k).map Value.bool)) := QO.out.alloc (.cells #[.bool true] 4)
        have b5 := below_box wy (.cells #[.bool true] 4)
        have E0 := hide (Q0.out.below b5)
        have E7 := hide (Q7.out.below b5)
        have ED := hide (QD.out.below b5)
        have EB := hide (QB.out.trans (b5.mono QB.out.size))
        have s5 : (wy.alloc (.cells #[.bool true] 4)).heap.size = wy.heap.size + 1 := by simp
        have S5 := hide s5
        have hc5 : (wy.alloc (.cells #[.bool true] 4)).cell? ⟨wy.heap.size, 0, none⟩ = some (.bool true) := by
          rw [cell_of_row _ wy.heap.size 0 _ _ _ (heap_alloc_new wy _)]
          rfl
        have HC5 := hide hc5
        clear b5 s5 hc5
        go_wp2_with (at_builtin; refine wpList_append_bol rfl _ _ rfl (w1.heap.size + 1) _ k (dn f k k) true rfl O3.out _ rfl HC5.out (by omega) (by have := S5.out; omega) ?_)
        intro g9 cap9 w5 o5 g5 hat hlt5
        obtain ⟨ca, cb', hc, hcs⟩ := grown_chg g5
        have hcs2 : (w1.heap.size + 1 ≤ ca ∧ cb' = ca + 1 ∧ (ca < W1.heap.size ∨ wx.heap.size ≤ ca)) ∨ (ca = (wy.alloc (.cells #[.bool true] 4)).heap.size ∧ cb' = ca) := by
          rcases hcs with ⟨e, rfl⟩ | ⟨_, rfl, rfl⟩
          · exact .inl ⟨(World.ownsRow.lt O3.out _ e).1, rfl, QS.out _ e⟩
          · exact .inr ⟨rfl, rfl⟩
        have hsz := S5.out
        have R0 := hide (E0.out.chg hc (by omega))
        have R7 := hide (E7.out.chg hc (by omega))
        have RD := hide (ED.out.chg hc (by omega))
        have RBl := hide (EB.out.trans (hc.below (by omega) (by omega)))
        have RS : Hid (∀ j, (Value.slice (some ⟨g9, 0, none⟩) (k + 1) cap9).ownBlock = some j → j < W1.heap.size ∨ wx.heap.size ≤ j) := by
          intro j hj
          have hj' : g9 = j := by simpa [Value.ownBlock] using hj
          rcases hat with e | e
          · have := QS.out _ e
            omega
          · omega
        have RO : Hid (OwnZ w5 (w1.heap.size + 1) (.slice (some ⟨g9, 0, none⟩) (k + 1) cap9) (dn f (k + 1) (k + 1))) := by
          show OwnZ _ _ _ _
          unfold OwnZ
          rw [← dn_app, HY.out, List.length_append, dn_len, List.map_append]
          exact o5
        have z5 := hc.size
        clear hc hcs hcs2 hat o5 g5 O3 E0 E7 ED EB Q0 Q7 QD QB QO QS HC5
        go_wp2
        go_roundw
        case rel => exact ⟨k + 1, _, _, _, W1.heap.size, wx.heap.size, by omega, by go_num, R0.out, R7.out, ⟨RO.out, RS.out⟩, RD.out, ⟨by omega, by omega, by omega⟩, RBl.out⟩
        case measure => simp [intOf]; omega
    · obtain rfl : k = m.length := by omega
      have dk := HD.out
      obtain ⟨ap, cp, ah, ch, ab, cb, rfl, rfl, rfl⟩ := dk.sl
      clear dk
      obtain ⟨av9, cv9, ev9⟩ := row_slice HO.out
      subst ev9
      have gd := (GD.out m.length).1
      obtain ⟨f0, f1, f2⟩ := HX7.out.c3
      go_wp2_with fail
      refine (l7Own_calls _ _ _ _ _ _ _ HD.out.rp HD.out.rh HD.out.rb (by have := gd.1; omega) (by have := gd.1; have := gd.2.1; omega) (by have := gd.1; have := gd.2.2.1; omega)).mono ?_
      rintro e w4 ⟨p', h', b', rfl, d', q⟩
      obtain ⟨ap', cp', ah', ch', ab', cb', rfl, rfl, rfl⟩ := d'.sl
      have sq := q.size
      have xr := HX0.out.below q
      obtain ⟨j0, j1, j2⟩ := xr.c3
      have i0 := xr.frozen 0
      have i1 := xr.frozen 1
      have i2 := xr.frozen 2
      have V0 := hide (xr.store3 (.slice ap' (plD f D m m.length).1.length cp') (.slice ah' (plD f D m m.length).2.1.length ch') (.slice ab' (plD f D m m.length).2.2.length cb'))
      have hc : Chg w.heap.size (w.heap.size + 1) w4 (((w4.setCell ⟨w.heap.size, 0, none⟩ (.slice ap' (plD f D m m.length).1.length cp')).setCell ⟨w.heap.size, 1, none⟩ (.slice ah' (plD f D m m.length).2.1.length ch')).setCell ⟨w.heap.size, 2, none⟩ (.slice ab' (plD f D m m.length).2.2.length cb')) := Chg.store3 w4 w.heap.size _ _ _ (Nat.le_refl _) (by omega)
      have o4 := ownsRow_below HO.out q
      have VO := hide (ownsRow_chg o4 (row_top o4) hc (.inr (by omega)))
      have VD := hide (d'.chg hc (.inr (by omega)))
      have VB := hide ((HB.out.trans (q.mono HB.out.size)).trans (hc.below (Nat.le_refl _) (by omega)))
      have zc := hc.size
      have VT := hide (row_top HO.out)
      clear hc HX0 HX7 HO HD HB xr o4 q d' gd f0 f1 f2
      go_wp2
      exact bodyPost_ret (res_dsk3 rfl _ _ w.heap.size _ _ _ (0, 0) rfl V0.out) rfl ⟨_, _, _, _, rfl, ⟨wr.heap.size, w4.heap.size, VD.out, by omega, by omega, Nat.le_refl _, ownsRow_mono VO.out (by omega), fun j hj => ⟨by have := VT.out j hj; omega, .inl (VT.out j hj)⟩⟩, VB.out⟩
end Go.Proofs.Ytnjpkfgljabdaaa

namespace Go.Proofs.Ytnjpkfgljabdaaa
open Go.RowKit
set_option linter.unusedVariables false

theorem ownsRow_off {w w' : World} {lo x y n : Nat} {e : TypeId} {v : Value} {xs : List Value} (h : w.ownsRow lo e 1 v n xs) (hc : Chg x y w w') (hd : ∀ k, v.ownBlock = some k → k < x ∨ y ≤ k) : w'.ownsRow lo e 1 v n xs := by
  refine ⟨h.1, ?_⟩
  rcases h.2 with h0 | ⟨g, cap, cur, rfl, hb, hg, r⟩
  · exact .inl h0
  · refine .inr ⟨g, cap, cur, rfl, hb, ?_, r⟩
    rw [hc.block g (Array.getElem?_eq_some_iff.1 hg).1 (by have := hd g rfl; omega)]
    exact hg
theorem PD.sl {w : World} {lo hi : Nat} {p h b v : Value} {D : Dk} {ds : List Bool} (d : PD w lo hi p h b v D ds) : ∃ ap cp ah ch ab cb av cv, p = .slice ap D.1.length cp ∧ h = .slice ah D.2.1.length ch ∧ b = .slice ab D.2.2.length cb ∧ v = .slice av ds.length cv := by
  obtain ⟨x, y, d, _, _, _, o, _⟩ := d
  obtain ⟨ap, cp, ah, ch, ab, cb, rfl, rfl, rfl⟩ := d.sl
  obtain ⟨av, cv, rfl⟩ := row_slice o
  exact ⟨ap, cp, ah, ch, ab, cb, av, cv, rfl, rfl, rfl, rfl⟩
theorem PD.rd {w : World} {lo hi : Nat} {p h b v : Value} {D : Dk} {ds : List Bool} (d : PD w lo hi p h b v D ds) : (RdT w p D.1 ∧ RdT w h D.2.1 ∧ RdZ w b D.2.2) ∧ RdZ w v ds := by
  obtain ⟨x, y, d, _, _, _, o, _⟩ := d
  exact ⟨⟨d.rp, d.rh, d.rb⟩, OwnZ.rd o⟩
theorem PD.markD {w w' : World} {lo hi x y : Nat} {p h b v : Value} {D' : Dk} {ds : List Bool} (h1 : lo ≤ x) (h2 : y ≤ hi) (h3 : hi ≤ w.heap.size) (o : OwnZ w lo v ds) (ht : ∀ k, v.ownBlock = some k → k < hi ∧ (k < x ∨ y ≤ k)) (d : DskV w' x y p h b D'.1 D'.2.1 D'.2.2) (hc : Chg x y w w') : PD w' lo hi p h b v D' ds ∧ Chg lo hi w w' :=
  ⟨⟨x, y, d, h1, h2, Nat.le_trans h3 hc.size, ownsRow_off o hc (fun k hk => (ht k hk).2), ht⟩, hc.wider h1 h2⟩
theorem PD.markZ {w w' : World} {lo hi x y : Nat} {p h b v : Value} {D : Dk} {ds ds' : List Bool} (d : DskV w x y p h b D.1 D.2.1 D.2.2) (h1 : lo ≤ x) (h2 : y ≤ hi) (h3 : hi ≤ w.heap.size) (o : OwnZ w lo v ds) (ht : ∀ k, v.ownBlock = some k → k < hi ∧ (k < x ∨ y ≤ k)) (o' : OwnZ w' lo v ds') (g : w.grownBy w' v.ownBlock) : PD w' lo hi p h b v D ds' ∧ Chg lo hi w w' := by
  obtain ⟨a, c, hc, hcs⟩ := grown_chg g
  have hd : y ≤ a ∨ c ≤ x := by
    rcases hcs with ⟨e, rfl⟩ | ⟨_, rfl, rfl⟩
    · have := (ht _ e).2
      omega
    · omega
  refine ⟨⟨x, y, d.chg hc hd, h1, h2, Nat.le_trans h3 hc.size, o', ht⟩, Chg.ofGrown g (fun k hk => ⟨(World.ownsRow.lt o k hk).1, (ht k hk).1⟩)⟩
theorem pd_sz {n : Int} {m : List Stp} {f : Nat → Bool} {ok : Bool} (hf : ∀ k, f k = true ↔ okD (plD f (ndT n, ndT n, ndZ n) m k) (m.getD k stp0)) (hok : ok = true ↔ ((1 ≤ n ∧ n ≤ 24) ∧ m.length ≤ 80)) :
    SzD (pdD ok f (ndT n, ndT n, ndZ n) m).1 (pdD ok f (ndT n, ndT n, ndZ n) m).2.1 (pdD ok f (ndT n, ndT n, ndZ n) m).2.2 ∧ (pdZ ok f m).length ≤ 80 := by
  cases ok with
  | false => simp [SzD, pdD, pdZ]
  | true =>
    have h := hok.1 rfl
    obtain ⟨⟨h1, h2, h3, _⟩, _⟩ := pl_good hf (nd_good h.1) m.length
    refine ⟨⟨?_, ?_, ?_⟩, ?_⟩
    · show (plD f _ m m.length).1.length ≤ _; omega
    · show (plD f _ m m.length).2.1.length ≤ _; omega
    · show (plD f _ m m.length).2.2.length ≤ _; omega
    · show (dn f m.length m.length).length ≤ _
      rw [dn_len]; exact h.2
end Go.Proofs.Ytnjpkfgljabdaaa

namespace Go.Proofs.Ytnjpkfgljabdaaa
open Go.RowKit
set_option linter.unusedVariables false

set_option linter.unusedSimpArgs false in
set_option maxRecDepth 100000 in
set_option maxHeartbeats 3200000 in
theorem fnExactPlayDisk_walk (n : Int) (v : Value) (m : List Stp) (w : World) (hv : RdX w v m) :
    Calls Try.prog 7 #[.int .i64 n, v] w fun e w' => e = .returned (.bool true) ∧ Below w.heap.size w w' := by
  have R := hide hv
  obtain ⟨av, cv, rfl, _, _, _⟩ := hv
  obtain ⟨ok, hok⟩ : ∃ ok : Bool, ok = true ↔ ((1 ≤ n ∧ n ≤ 24) ∧ m.length ≤ 80) := ⟨decide _, decide_eq_true_iff⟩
  obtain ⟨f, hf⟩ := pl_some (ndT n, ndT n, ndZ n) m
  have HOK := hide hok
  have HF := hide hf
  clear hok hf
  have A0 := hide (Hand.start w)
  go_enter Try.func7, Try.ntmps7
  go_wp2_with fail
  refine (szDiskStepS_calls _ m _ (R.out.below A0.out.below)).mono ?_
  rintro e w1 ⟨⟨r, rfl, hr⟩, q⟩
  have A1 := hide (A0.out.step q)
  clear A0 q
  by_cases r0 : r < 0
  · go_wp2
    go_ret
    exact ⟨rfl, A1.out.below⟩
  have hz := hr.resolve_left r0
  clear hr
  have C1 := hide (fun V v h => sPlayDisk_calls n v m f ok V h hz HF.out HOK.out)
  have C2 := hide (fun V v h => playDisk_calls n v m f ok V h hz HF.out HOK.out)
  have CT := hide (fun V h => toDiskStepS_calls (.slice av m.length cv) m V h hz)
  have CM := hide (fun g lo hi V h => markDiskStepS_calls g m lo hi V h hz)
  have SX := hide (pd_sz HF.out HOK.out)
  generalize pdD ok f (ndT n, ndT n, ndZ n) m = X at C1 C2 SX
  generalize pdZ ok f m = dz at C1 C2 SX
  clear HF HOK hz
  have sx1 : X.1.length ≤ 1048576 := SX.out.1.1
  have sx2 : X.2.1.length ≤ 1048576 := SX.out.1.2.1
  have sx3 : X.2.2.length ≤ 1048576 := SX.out.1.2.2
  have sx4 : dz.length ≤ 80 := SX.out.2
  go_wp2_with fail
  refine (CT.out _ (R.out.below A1.out.below)).mono ?_
  rintro e w2 ⟨gi, rfl, t, q⟩
  have A2 := hide (A1.out.add q (TStx.st _ _) t)
  clear A1 q t
  obtain ⟨loi, hii, ti⟩ := A2.out.get 0 rfl
  have TS : Hid (RdX _ _ m) := TStx.rd ti
  clear ti
  go_wp2_with fail
  refine (C1.out _ _ TS.out).mono ?_
  rintro e w3 ⟨pyy, hyy, byy, vyy, rfl, pd, q⟩
  obtain ⟨apyy, cpyy, ahyy, chyy, abyy, cbyy, avyy, cvyy, rfl, rfl, rfl, rfl⟩ := pd.sl
  have A3 := hide ((A2.out.add q (TPD.st _ _ _ _ _ _) pd).box #[.slice apyy X.1.length cpyy, .slice ahyy X.2.1.length chyy, .slice abyy X.2.2.length cbyy] 25)
  clear A2 q pd TS loi hii
  go_wp2_with fail
  refine (CT.out _ (R.out.below A3.out.below)).mono ?_
  rintro e w4 ⟨gj, rfl, t, q⟩
  have A4 := hide (A3.out.add q (TStx.st _ _) t)
  clear A3 q t
  obtain ⟨loj, hij, tj⟩ := A4.out.get 0 rfl
  have TS : Hid (RdX _ _ m) := TStx.rd tj
  clear tj
  go_wp2_with fail
  refine (C2.out _ _ TS.out).mono ?_
  rintro e w5 ⟨pu, hu, bu, vu, rfl, pd, q⟩
  obtain ⟨apu, cpu, ahu, chu, abu, cbu, avu, cvu, rfl, rfl, rfl, rfl⟩ := pd.sl
  have A5 := hide ((A4.out.add q (TPD.st _ _ _ _ _ _) pd).box #[.slice apu X.1.length cpu, .slice ahu X.2.1.length chu, .slice abu X.2.2.length cbu] 25)
  clear A4 q pd TS loj hij
  obtain ⟨cg00, cg01, cg02⟩ := (A5.out.atBox 0 rfl).c3
  obtain ⟨cw00, cw01, cw02⟩ := (A5.out.atBox 3 rfl).c3
  obtain ⟨lou, hiu, pdu⟩ := A5.out.get 1 rfl
  have Du : Hid (PD _ _ _ _ _ _ _ (X) (dz)) := pdu
  clear pdu
  obtain ⟨loyy, hiyy, pdyy⟩ := A5.out.get 4 rfl
  have Dyy : Hid (PD _ _ _ _ _ _ _ (X) (dz)) := pdyy
  clear pdyy
  go_wp2_with fail
  refine (eqDisk_same _ _ _ _ _ _ X.1 X.2.1 X.2.2 _ Du.out.rd.1.1 Du.out.rd.1.2.1 Du.out.rd.1.2.2 Dyy.out.rd.1.1 Dyy.out.rd.1.2.1 Dyy.out.rd.1.2.2).mono ?_
  rintro e w6 ⟨rfl, q⟩
  have A6 := hide (A5.out.step q)
  clear A5 q cg00 cg01 cg02 cw00 cw01 cw02 Du lou hiu Dyy loyy hiyy
  obtain ⟨lou, hiu, pdu⟩ := A6.out.get 1 rfl
  have Du : Hid (PD _ _ _ _ _ _ _ (X) (dz)) := pdu
  clear pdu
  obtain ⟨loyy, hiyy, pdyy⟩ := A6.out.get 4 rfl
  have Dyy : Hid (PD _ _ _ _ _ _ _ (X) (dz)) := pdyy
  clear pdyy
  go_wp2_with fail
  refine (eqBoolS_same _ _ dz _ Du.out.rd.2 Dyy.out.rd.2).mono ?_
  rintro e w7 ⟨rfl, q⟩
  have A7 := hide (A6.out.step q)
  clear A6 q Du lou hiu Dyy loyy hiyy
  go_wp2_with fail
  refine (CT.out _ (R.out.below A7.out.below)).mono ?_
  rintro e w8 ⟨gi2, rfl, t, q⟩
  have A8 := hide (A7.out.add q (TStx.st _ _) t)
  clear A7 q t
  obtain ⟨loj, hij, tj⟩ := A8.out.get 3 rfl
  have TJ : Hid (RdX _ _ m) := TStx.rd tj
  clear tj
  obtain ⟨loi2, hii2, ti2⟩ := A8.out.get 0 rfl
  have TI : Hid (RdX _ _ m) := TStx.rd ti2
  clear ti2
  go_wp2_with fail
  refine (eqDiskStepS_same _ _ m _ TJ.out TI.out).mono ?_
  rintro e w9 ⟨rfl, q⟩
  have A9 := hide (A8.out.step q)
  clear A8 q TJ TI loj hij loi2 hii2
  obtain ⟨lo, hi, tj, lw, hw, put⟩ := A9.out.open 3 rfl
  have TJ : Hid (TStx gj m lo hi _) := tj
  have PUT := hide put
  clear tj put lw
  go_wp2_with fail
  refine (CM.out _ lo hi _ TJ.out).mono ?_
  rintro e w10 ⟨⟨kx, rfl⟩, told, q⟩
  have A10 := hide (PUT.out _ (TOld _ _) (TOld.st _ _) told q)
  clear A9 q told TJ PUT hw lo hi
  have kxn : ¬ (kx : Int) < 0 := by omega
  obtain ⟨cg00, cg01, cg02⟩ := (A10.out.atBox 1 rfl).c3
  obtain ⟨cw00, cw01, cw02⟩ := (A10.out.atBox 4 rfl).c3
  obtain ⟨lou, hiu, pdu⟩ := A10.out.get 2 rfl
  have Du : Hid (PD _ _ _ _ _ _ _ (X) (dz)) := pdu
  clear pdu
  obtain ⟨loyy, hiyy, pdyy⟩ := A10.out.get 5 rfl
  have Dyy : Hid (PD _ _ _ _ _ _ _ (X) (dz)) := pdyy
  clear pdyy
  go_wp2_with fail
  refine (eqDisk_same _ _ _ _ _ _ X.1 X.2.1 X.2.2 _ Du.out.rd.1.1 Du.out.rd.1.2.1 Du.out.rd.1.2.2 Dyy.out.rd.1.1 Dyy.out.rd.1.2.1 Dyy.out.rd.1.2.2).mono ?_
  rintro e w11 ⟨rfl, q⟩
  have A11 := hide (A10.out.step q)
  clear A10 q cg00 cg01 cg02 cw00 cw01 cw02 Du lou hiu Dyy loyy hiyy
  obtain ⟨lou, hiu, pdu⟩ := A11.out.get 2 rfl
  have Du : Hid (PD _ _ _ _ _ _ _ (X) (dz)) := pdu
  clear pdu
  obtain ⟨loyy, hiyy, pdyy⟩ := A11.out.get 5 rfl
  have Dyy : Hid (PD _ _ _ _ _ _ _ (X) (dz)) := pdyy
  clear pdyy
  go_wp2_with fail
  refine (eqBoolS_same _ _ dz _ Du.out.rd.2 Dyy.out.rd.2).mono ?_
  rintro e w12 ⟨rfl, q⟩
  have A12 := hide (A11.out.step q)
  clear A11 q Du lou hiu Dyy loyy hiyy
  obtain ⟨cg00, cg01, cg02⟩ := (A12.out.atBox 1 rfl).c3
  obtain ⟨lo, hi, pd, lw, hw, put⟩ := A12.out.open 2 rfl
  have PUT := hide put
  clear put lw
  obtain ⟨x, y, d, a1, a2, a3, oz, hs⟩ := (show PD _ lo hi _ _ _ _ (X) (dz) from pd)
  have DD := hide d
  have OZ := hide oz
  have HS := hide hs
  clear d oz hs pd
  go_wp2_with fail
  refine (markDisk_calls _ _ _ X.1 X.2.1 X.2.2 1 x y _ DD.out (by omega) (by omega) (by omega) SX.out.1).mono ?_
  rintro e w13 ⟨rfl, d4, q⟩
  obtain ⟨pd4, c4⟩ := PD.markD (D' := (marksT 1 X.1.length, marksT (1 + X.1.length) X.2.1.length, marksZ ((1 + X.1.length + X.2.1.length : Nat) : Int) X.2.2.length)) a1 a2 a3 OZ.out HS.out d4 q
  have A13 := hide (PUT.out _ (TPD _ _ _ _ (marksT 1 X.1.length, marksT (1 + X.1.length) X.2.1.length, marksZ ((1 + X.1.length + X.2.1.length : Nat) : Int) X.2.2.length) dz) (TPD.st _ _ _ _ _ _) pd4 c4)
  clear A12 q d4 pd4 c4 PUT hw a1 a2 a3 DD OZ HS x y lo hi cg00 cg01 cg02
  obtain ⟨kk, hkk⟩ : ∃ kk : Nat, kk = 1 + X.1.length + X.2.1.length + X.2.2.length := ⟨_, rfl⟩
  have HKK := hide hkk
  have kb : kk ≤ 4000000 := by omega
  rw [← hkk]
  clear hkk
  obtain ⟨lo, hi, pd, lw, hw, put⟩ := A13.out.open 2 rfl
  have PUT := hide put
  clear put lw
  obtain ⟨x, y, d, a1, a2, a3, oz, hs⟩ := (show PD _ lo hi _ _ _ _ ((marksT 1 X.1.length, marksT (1 + X.1.length) X.2.1.length, marksZ ((1 + X.1.length + X.2.1.length : Nat) : Int) X.2.2.length)) (dz) from pd)
  have DD := hide d
  have OZ := hide oz
  have HS := hide hs
  clear d oz hs pd
  go_wp2_with fail
  refine (markBoolS_calls _ dz (kk : Int) lo _ OZ.out (by omega) (by omega) (by omega)).mono ?_
  rintro e w14 ⟨rfl, o4, g4⟩
  obtain ⟨pd4, c4⟩ := PD.markZ (D := (marksT 1 X.1.length, marksT (1 + X.1.length) X.2.1.length, marksZ ((1 + X.1.length + X.2.1.length : Nat) : Int) X.2.2.length)) DD.out a1 a2 a3 OZ.out HS.out o4 g4
  have A14 := hide (PUT.out _ (TPD _ _ _ _ (marksT 1 X.1.length, marksT (1 + X.1.length) X.2.1.length, marksZ ((1 + X.1.length + X.2.1.length : Nat) : Int) X.2.2.length) (marksZ (kk : Int) dz.length)) (TPD.st _ _ _ _ _ _) pd4 c4)
  clear A13 o4 g4 pd4 c4 PUT hw a1 a2 a3 DD OZ HS x y lo hi
  obtain ⟨cg00, cg01, cg02⟩ := (A14.out.atBox 1 rfl).c3
  obtain ⟨lou, hiu, pdu⟩ := A14.out.get 2 rfl
  have Du : Hid (PD _ _ _ _ _ _ _ ((marksT 1 X.1.length, marksT (1 + X.1.length) X.2.1.length, marksZ ((1 + X.1.length + X.2.1.length : Nat) : Int) X.2.2.length)) (marksZ (kk : Int) dz.length)) := pdu
  clear pdu
  go_wp2_with fail
  refine (heldDisk_calls _ _ _ X.1.length X.2.1.length X.2.2.length 1 _ Du.out.rd.1.1 Du.out.rd.1.2.1 Du.out.rd.1.2.2 (by omega) (by omega) sx1 sx2 sx3).mono ?_
  rintro e w15 ⟨rfl, q⟩
  have A15 := hide (A14.out.step q)
  clear A14 q cg00 cg01 cg02 Du lou hiu
  rw [← HKK.out]
  have kn0 : ¬ (kk : Int) < 0 := by omega
  obtain ⟨lou, hiu, pdu⟩ := A15.out.get 2 rfl
  have Du : Hid (PD _ _ _ _ _ _ _ ((marksT 1 X.1.length, marksT (1 + X.1.length) X.2.1.length, marksZ ((1 + X.1.length + X.2.1.length : Nat) : Int) X.2.2.length)) (marksZ (kk : Int) dz.length)) := pdu
  clear pdu
  go_wp2_with fail
  refine (heldBoolS_calls _ dz.length (kk : Int) _ Du.out.rd.2 (by omega) (by omega) (by omega)).mono ?_
  rintro e w16 ⟨rfl, rfl⟩
  clear Du lou hiu
  have kn1 : ¬ (kk : Int) + (dz.length : Int) < 0 := by omega
  go_wp2_with fail
  refine (CT.out _ (R.out.below A15.out.below)).mono ?_
  rintro e w17 ⟨gi3, rfl, t, q⟩
  have A17 := hide (A15.out.add q (TStx.st _ _) t)
  clear A15 q t
  obtain ⟨loi3, hii3, ti3⟩ := A17.out.get 0 rfl
  have TS : Hid (RdX _ _ m) := TStx.rd ti3
  clear ti3
  go_wp2_with fail
  refine (C2.out _ _ TS.out).mono ?_
  rintro e w18 ⟨pv, hv, bv, vv, rfl, pd, q⟩
  obtain ⟨apv, cpv, ahv, chv, abv, cbv, avv, cvv, rfl, rfl, rfl, rfl⟩ := pd.sl
  have A18 := hide ((A17.out.add q (TPD.st _ _ _ _ _ _) pd).box #[.slice apv X.1.length cpv, .slice ahv X.2.1.length chv, .slice abv X.2.2.length cbv] 25)
  clear A17 q pd TS loi3 hii3
  obtain ⟨ch00, ch01, ch02⟩ := (A18.out.atBox 0 rfl).c3
  obtain ⟨cw00, cw01, cw02⟩ := (A18.out.atBox 7 rfl).c3
  obtain ⟨lov, hiv, pdv⟩ := A18.out.get 1 rfl
  have Dv : Hid (PD _ _ _ _ _ _ _ (X) (dz)) := pdv
  clear pdv
  obtain ⟨loyy, hiyy, pdyy⟩ := A18.out.get 8 rfl
  have Dyy : Hid (PD _ _ _ _ _ _ _ (X) (dz)) := pdyy
  clear pdyy
  go_wp2_with fail
  refine (eqDisk_same _ _ _ _ _ _ X.1 X.2.1 X.2.2 _ Dv.out.rd.1.1 Dv.out.rd.1.2.1 Dv.out.rd.1.2.2 Dyy.out.rd.1.1 Dyy.out.rd.1.2.1 Dyy.out.rd.1.2.2).mono ?_
  rintro e w19 ⟨rfl, q⟩
  have A19 := hide (A18.out.step q)
  clear A18 q ch00 ch01 ch02 cw00 cw01 cw02 Dv lov hiv Dyy loyy hiyy
  obtain ⟨lov, hiv, pdv⟩ := A19.out.get 1 rfl
  have Dv : Hid (PD _ _ _ _ _ _ _ (X) (dz)) := pdv
  clear pdv
  obtain ⟨loyy, hiyy, pdyy⟩ := A19.out.get 8 rfl
  have Dyy : Hid (PD _ _ _ _ _ _ _ (X) (dz)) := pdyy
  clear pdyy
  go_wp2_with fail
  refine (eqBoolS_same _ _ dz _ Dv.out.rd.2 Dyy.out.rd.2).mono ?_
  rintro e w20 ⟨rfl, q⟩
  have A20 := hide (A19.out.step q)
  clear A19 q Dv lov hiv Dyy loyy hiyy
  obtain ⟨cg00, cg01, cg02⟩ := (A20.out.atBox 4 rfl).c3
  obtain ⟨lou, hiu, pdu⟩ := A20.out.get 5 rfl
  have Du : Hid (PD _ _ _ _ _ _ _ ((marksT 1 X.1.length, marksT (1 + X.1.length) X.2.1.length, marksZ ((1 + X.1.length + X.2.1.length : Nat) : Int) X.2.2.length)) (marksZ (kk : Int) dz.length)) := pdu
  clear pdu
  go_wp2_with fail
  refine (heldDisk_calls _ _ _ X.1.length X.2.1.length X.2.2.length 1 _ Du.out.rd.1.1 Du.out.rd.1.2.1 Du.out.rd.1.2.2 (by omega) (by omega) sx1 sx2 sx3).mono ?_
  rintro e w21 ⟨rfl, q⟩
  have A21 := hide (A20.out.step q)
  clear A20 q cg00 cg01 cg02 Du lou hiu
  rw [← HKK.out]
  have kn0 : ¬ (kk : Int) < 0 := by omega
  obtain ⟨lou, hiu, pdu⟩ := A21.out.get 5 rfl
  have Du : Hid (PD _ _ _ _ _ _ _ ((marksT 1 X.1.length, marksT (1 + X.1.length) X.2.1.length, marksZ ((1 + X.1.length + X.2.1.length : Nat) : Int) X.2.2.length)) (marksZ (kk : Int) dz.length)) := pdu
  clear pdu
  go_wp2_with fail
  refine (heldBoolS_calls _ dz.length (kk : Int) _ Du.out.rd.2 (by omega) (by omega) (by omega)).mono ?_
  rintro e w22 ⟨rfl, rfl⟩
  clear Du lou hiu
  have kn1 : ¬ (kk : Int) + (dz.length : Int) < 0 := by omega
  go_wp2
  go_ret
  exact ⟨rfl, A21.out.below⟩
end Go.Proofs.Ytnjpkfgljabdaaa
