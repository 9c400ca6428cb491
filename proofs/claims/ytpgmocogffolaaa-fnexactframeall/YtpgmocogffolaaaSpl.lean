/-
  A text in pieces: the model's SplitBody and the program's, call by call. No condition but a bound on the text's length.
-/
import Derived.Test.YtpgmocogffolaaaTxm
import Derived.Test.YtpgmocogffolaaaFrr
namespace Go.Proofs.Ytpgmocogffolaaa
open Go.RowKit
set_option linter.unusedVariables false

/-- The k-th piece of 16 bytes. -/
def pc (S : ByteArray) (k : Nat) : ByteArray := ofN (((bs S).drop (16 * k)).take 16)
def pcs (S : ByteArray) (k : Nat) : List ByteArray := (List.range k).map (pc S)
theorem pcs_succ (S : ByteArray) (k : Nat) : pcs S (k + 1) = pcs S k ++ [pc S k] := by simp [pcs, List.range_succ]
theorem pcs_length (S : ByteArray) (k : Nat) : (pcs S k).length = k := by simp [pcs]
theorem pc_size (S : ByteArray) (k : Nat) : (pc S k).size = min 16 (S.size - 16 * k) := by
  unfold pc
  rw [ofN_size, List.length_take, List.length_drop, bs_length]
theorem pcs_small (S : ByteArray) (k : Nat) : ∀ s ∈ pcs S k, s.size ≤ maxLen := by
  intro s hs
  simp only [pcs, List.mem_map, List.mem_range] at hs
  obtain ⟨i, _, rfl⟩ := hs
  rw [pc_size]
  unfold maxLen
  omega
/-- How many pieces there are. -/
def many (S : ByteArray) : Nat := (S.size + 15) / 16
def splR (S : ByteArray) : List ByteArray × Bool := if 1 ≤ S.size ∧ S.size ≤ 160 then (pcs S (many S), true) else ([], false)
theorem ext_take (l : List Nat) (k : Nat) : (ofN l).extract 0 k = ofN (l.take k) := by
  have e := ByteArray.extract_mk (l.map UInt8.ofNat) 0 k
  unfold ofN
  have : (ByteArray.mk (l.map UInt8.ofNat).toArray).extract 0 k = ByteArray.mk ((l.map UInt8.ofNat).take k).toArray := by simpa using e
  rw [this, List.map_take]
theorem ext_drop (l : List Nat) (k n : Nat) (h : n = l.length) : (ofN l).extract k n = ofN (l.drop k) := by
  subst h
  have e := ByteArray.extract_mk (l.map UInt8.ofNat) k l.length
  unfold ofN
  have e2 : ((l.map UInt8.ofNat).drop k).take (l.length - k) = (l.map UInt8.ofNat).drop k := List.take_of_length_le (by rw [List.length_drop, List.length_map]; exact Nat.le_refl _)
  rw [e2] at e
  rw [List.map_drop]
  exact e
theorem ownT_nil (w : World) (base : Nat) : OwnT w base (.slice none 0 0) [] := World.ownsRow_nil _ _ _ _
theorem own_ge {w : World} {base : Nat} {v : Value} {xs : List ByteArray} (h : OwnT w base v xs) : ∀ j, v.ownBlock = some j → base ≤ j := by
  intro j hj
  rcases h.2 with ⟨rfl, _⟩ | ⟨g, cap, cur, rfl, hb, _⟩
  · simp [Value.ownBlock] at hj
  · simp [Value.ownBlock] at hj
    omega
theorem ownsRow_less {w : World} {base base' n : Nat} {v : Value} {xs : List Value} (h : w.ownsRow base 9 1 v n xs) (hb : base' ≤ base) : w.ownsRow base' 9 1 v n xs := by
  refine ⟨h.1, ?_⟩
  rcases h.2 with hn | ⟨g, cap, cur, rfl, hb', rest⟩
  · exact .inl hn
  · exact .inr ⟨g, cap, cur, rfl, Nat.le_trans hb hb', rest⟩
theorem own_slice {w : World} {base : Nat} {v : Value} {xs : List ByteArray} (h : OwnT w base v xs) : ∃ a cap, v = .slice a xs.length cap := by
  rcases h.2 with ⟨rfl, h0⟩ | ⟨g, cap, cur, rfl, hb, _⟩
  · exact ⟨none, 0, by rw [h0]⟩
  · exact ⟨_, cap, rfl⟩
theorem OwnT.wide {w : World} {base n : Nat} {v : Value} {xs : List ByteArray} (h : OwnT w base v xs) (hn : n = xs.length) : w.ownsRow base 9 1 v n (xs.map Value.string) := by rw [hn]; exact h

set_option maxRecDepth 100000 in
set_option maxHeartbeats 800000 in
theorem sSplitBody_calls (S : ByteArray) (w : World) (hS : S.size ≤ maxLen) :
    Calls Try.prog 108 #[.string S] w fun e w' => ∃ v, e = .returned (.tuple #[v, .bool (splR S).2]) ∧ OwnT w' w.heap.size v (splR S).1 ∧ Below w.heap.size w w' := by
  unfold maxLen at hS
  by_cases hg : 1 ≤ S.size ∧ S.size ≤ 160
  case neg =>
    have er : splR S = ([], false) := if_neg hg
    rw [er]
    clear er
    go_enter Try.func108, Try.ntmps108
    go_wp2_with fail
    refine (l1In_no _ _ _ _ (by omega)).mono ?_
    rintro e w1 ⟨rfl, rfl⟩
    go_wp2
    go_ret2
    exact ⟨_, rfl, ownT_nil _ _, Below.refl _ _⟩
  have er : splR S = (pcs S (many S), true) := if_pos hg
  rw [er]
  clear er
  obtain ⟨h1, h160⟩ := hg
  have hlen := bs_length S
  have HLen := hide hlen
  clear hlen
  go_enter Try.func108, Try.ntmps108
  go_wp2_with fail
  refine (l1In_yes _ _ _ _ (by omega) (by omega)).mono ?_
  rintro e w1 ⟨rfl, rfl⟩
  go_wp2
  go_loopw [0, 4] (fun vs vo wr => ∃ k : Nat, vs = .string (ofN ((bs S).drop (16 * k))) ∧ 16 * k < S.size ∧ OwnT wr w.heap.size vo (pcs S k) ∧ Below w.heap.size w wr) (fun vs _ _ => match vs with | .string s => s.size | _ => 0)
  case atStart => exact ⟨0, by rw [Nat.mul_zero, List.drop_zero, ofN_bs], by omega, ownT_nil _ _, Below.refl _ _⟩
  case round =>
    obtain ⟨k, rfl, hk, hown, hb⟩ := hrel
    have hsz : (ofN ((bs S).drop (16 * k))).size = S.size - 16 * k := by rw [ofN_size, List.length_drop, HLen.out]
    have HB := hide hb
    obtain ⟨a0, cap0, rfl⟩ := own_slice hown
    have hpl := pcs_length S k
    have hge := own_ge hown
    have how : wr.ownsRow w.heap.size 9 1 (.slice a0 (pcs S k).length cap0) (pcs S k).length ((pcs S k).map Value.string) := hown
    rw [hpl] at hge how
    rw [hpl]
    have O := hide how
    have GE := hide hge
    clear hown hb hge hpl how
    obtain ⟨T, hT⟩ : ∃ T, T = ofN ((bs S).drop (16 * k)) := ⟨_, rfl⟩
    have HT := hide hT
    rw [← hT] at hsz ⊢
    clear hT
    by_cases h16 : 16 < S.size - 16 * k
    · have h16' : (16 : Int) < (T.size : Int) := by omega
      have hT16 : (16 : Int) ≤ (T.size : Int) := by omega
      have HSZ := hide hsz
      clear hsz
      have hpc : Hid (T.extract 0 16 = pc S k) := by
        show _ = _
        rw [HT.out]
        exact ext_take _ 16
      have O1 := hide (O.out.alloc (.cells #[.string (T.extract 0 16)] 9))
      have hb1 : w.heap.size ≤ (wr.alloc (.cells #[.string (T.extract 0 16)] 9)).heap.size := by have := HB.out.size; simp; omega
      have hc1 : (wr.alloc (.cells #[.string (T.extract 0 16)] 9)).cell? ⟨wr.heap.size, 0, none⟩ = some (.string (T.extract 0 16)) := by rw [cell_of_row _ wr.heap.size 0 _ _ _ (heap_alloc_new wr _)]; rfl
      go_wp2_with (at_builtin; refine wpList_append_text1 rfl _ _ rfl w.heap.size _ k (pcs S k) (T.extract 0 16) rfl O1.out wr.heap.size rfl hc1 (by omega) hb1 ?_)
      intro v' w2 o2 g2
      have O2 := hide o2
      have B2 := hide (((HB.out.alloc HB.out.size (.cells #[.string (T.extract 0 16)] 9))).grown g2 (by have := HB.out.size; simp; omega) GE.out)
      clear o2 g2 hc1 hb1 O1
      have hsl : T.extract 16 T.size = ofN ((bs S).drop (16 * (k + 1))) := by
        rw [HT.out, ext_drop _ 16 _ (by rw [ofN_size]), List.drop_drop]
        congr 2
      have HSL := hide hsl
      clear hsl
      go_wp2
      go_roundw
      case rel =>
        refine ⟨k + 1, by rw [HSL.out], by omega, ?_, B2.out⟩
        rw [pcs_succ, ← hpc.out]
        exact O2.out
      case measure =>
        simp only []
        rw [HSL.out, ofN_size, List.length_drop, HLen.out]
        have := HSZ.out
        omega
    · have h16' : ¬ (16 : Int) < (T.size : Int) := by omega
      have hpc : Hid (T = pc S k) := by
        show _ = _
        rw [HT.out]
        unfold pc
        rw [List.take_of_length_le (by rw [List.length_drop, HLen.out]; omega)]
      have hmany : Hid (many S = k + 1) := by
        show (S.size + 15) / 16 = k + 1
        omega
      have O1 := hide (O.out.alloc (.cells #[.string T] 9))
      have hb1 : w.heap.size ≤ (wr.alloc (.cells #[.string T] 9)).heap.size := by have := HB.out.size; simp; omega
      have hc1 : (wr.alloc (.cells #[.string T] 9)).cell? ⟨wr.heap.size, 0, none⟩ = some (.string T) := by rw [cell_of_row _ wr.heap.size 0 _ _ _ (heap_alloc_new wr _)]; rfl
      clear hsz
      go_wp2_with (at_builtin; refine wpList_append_text1 rfl _ _ rfl w.heap.size _ k (pcs S k) T rfl O1.out wr.heap.size rfl hc1 (by omega) hb1 ?_)
      intro v' w2 o2 g2
      have O2 := hide o2
      have B2 := hide (((HB.out.alloc HB.out.size (.cells #[.string T] 9))).grown g2 (by have := HB.out.size; simp; omega) GE.out)
      clear o2 g2 hc1 hb1 O1
      go_wp2
      go_ret2
      refine ⟨_, rfl, ?_, B2.out⟩
      rw [hmany.out, pcs_succ, ← hpc.out]
      exact O2.out

theorem BRow.grown {w w' : World} {g m : Nat} {l : List Nat} {r : Option Nat} (h : BRow w g m l) (hg : w.grownBy w' r) (hne : ∀ j, r = some j → g < j) : BRow w' g m l := by
  have hl := h.lt
  obtain ⟨C, h1, h2⟩ := h
  refine ⟨C, ?_, h2⟩
  rw [hg.block g hl (fun e => by have := hne g e.symm; omega)]
  exact h1

set_option maxRecDepth 100000 in
set_option maxHeartbeats 1600000 in
theorem splitBody_calls (S : ByteArray) (w : World) (hS : S.size ≤ maxLen) :
    Calls Try.prog 109 #[.string S] w fun e w' => ∃ v, e = .returned (.tuple #[v, .bool (splR S).2]) ∧ OwnT w' w.heap.size v (splR S).1 ∧ Below w.heap.size w w' := by
  unfold maxLen at hS
  by_cases hg1 : 1 ≤ S.size
  case neg =>
    have er : splR S = ([], false) := if_neg (fun h => hg1 h.1)
    rw [er]
    clear er
    have h' : (S.size : Int) < 1 := by omega
    go_enter Try.func109, Try.ntmps109
    go_wp2
    go_ret2
    exact ⟨_, rfl, ownT_nil _ _, Below.refl _ _⟩
  by_cases hg2 : S.size ≤ 160
  case neg =>
    have er : splR S = ([], false) := if_neg (fun h => hg2 h.2)
    rw [er]
    clear er
    have h' : ¬ (S.size : Int) < 1 := by omega
    have h2' : (160 : Int) < (S.size : Int) := by omega
    go_enter Try.func109, Try.ntmps109
    go_wp2
    go_ret2
    exact ⟨_, rfl, ownT_nil _ _, Below.refl _ _⟩
  have er : splR S = (pcs S (many S), true) := if_pos ⟨hg1, hg2⟩
  rw [er]
  clear er
  have h1' : ¬ (S.size : Int) < 1 := by omega
  have h2' : ¬ (160 : Int) < (S.size : Int) := by omega
  have hlen := bs_length S
  have HLen := hide hlen
  clear hlen
  have hcv := conv_bytes S w
  have hr := bytesW_row S w
  have hb1 := bytesW_below S w
  have hc28 := bytesC_ge S w
  generalize bytesC S w = c at hcv hr hc28
  generalize bytesW S w = W at hcv hr hb1
  have hlt : w.heap.size < W.heap.size := hr.lt
  have RR := hide hr
  have S1 := hide hb1
  have O0 : Hid (OwnT (W.alloc (.cells #[] 9)) (w.heap.size + 1) (.slice (some ⟨W.heap.size, 0, none⟩) 0 0) []) := by
    show World.ownsRow _ _ _ _ _ _ _
    have := World.ownsRow_lit (base := w.heap.size + 1) (e := 9) (size := 1) W #[] 0 hlt (by unfold maxLen; omega) (by simp)
    simpa using this
  clear hr hb1
  go_enter Try.func109, Try.ntmps109
  go_wp2
  go_loopw [5, 6] (fun vo vf wr => ∃ k : Nat, vf = .int .i64 ((16 * k : Nat) : Int) ∧ 16 * k < S.size + 16 ∧ OwnT wr (w.heap.size + 1) vo (pcs S k) ∧ BRow wr w.heap.size c (bs S) ∧ Below w.heap.size w wr) (fun _ vf _ => (S.size + 16) - (intOf vf).toNat)
  case atStart => exact ⟨0, rfl, by omega, O0.out, RR.out.kept ((Below.refl _ _).alloc (Nat.le_refl _) _), S1.out.alloc (Nat.le_of_lt hlt) _⟩
  case round =>
    obtain ⟨k, rfl, hk, hown, hrow, hb⟩ := hrel
    have HB := hide hb
    obtain ⟨a0, cap0, rfl⟩ := own_slice hown
    have hpl := pcs_length S k
    have hge := own_ge hown
    have how : wr.ownsRow (w.heap.size + 1) 9 1 (.slice a0 (pcs S k).length cap0) (pcs S k).length ((pcs S k).map Value.string) := hown
    rw [hpl] at hge how
    rw [hpl]
    have O := hide how
    have GE := hide hge
    have HR := hide hrow
    have hwl : w.heap.size < wr.heap.size := hrow.lt
    clear hown hb hge hpl how hrow
    by_cases hlt2 : 16 * k < S.size
    · obtain ⟨f, hf⟩ : ∃ f, f = 16 * k := ⟨_, rfl⟩
      have HF := hide hf
      have hk10 : k ≤ 10 := by omega
      rw [← hf] at hlt2 hk ⊢
      clear hf
      have t1 : (f : Int) < (S.size : Int) := by omega
      by_cases hfull : S.size < f + 16
      · obtain ⟨n, hn⟩ : ∃ n, n = S.size - f := ⟨_, rfl⟩
        have hsub : Hid ((S.size : Int) - (f : Int) = (n : Int)) := by show _ = _; omega
        have hn16 : n < 16 := by omega
        have hfn : f + n = S.size := by omega
        have HFN := hide hfn
        have hfn' : f + n ≤ S.size := by omega
        have hcc : f + n ≤ c := by omega
        have t2 : (S.size : Int) - (f : Int) < 16 := by omega
        have t3 : ¬ (16 : Int) < (S.size : Int) - (f : Int) := by omega
        have t4 : ¬ (16 : Int) ≤ (S.size : Int) - (f : Int) := by omega
        clear hn hfn
        go_wp2_with fail
        rw [hsub.out]
        refine (cutBytes_any w.heap.size S.size c f n _ (by omega) (by omega)).mono ?_
        rintro e' w1 ⟨rfl, rfl⟩
        have hct := HR.out.cut (f := f) (n := n) (bs_lt S) (by rw [HLen.out]; omega)
        have hpc : Hid (ofN (((bs S).drop f).take n) = pc S k) := by
          show _ = _
          unfold pc
          rw [HF.out]
          rw [List.take_of_length_le (by rw [List.length_drop, HLen.out]; have := HF.out; have := HFN.out; omega), List.take_of_length_le (by rw [List.length_drop, HLen.out]; have := HF.out; have := HFN.out; omega)]
        generalize ofN (((bs S).drop f).take n) = T at hct hpc
        have O1 := hide (O.out.alloc (.cells #[.string T] 9))
        have hb2 : w.heap.size + 1 ≤ (wr.alloc (.cells #[.string T] 9)).heap.size := by simp; omega
        have hc1 : (wr.alloc (.cells #[.string T] 9)).cell? ⟨wr.heap.size, 0, none⟩ = some (.string T) := by rw [cell_of_row _ wr.heap.size 0 _ _ _ (heap_alloc_new wr _)]; rfl
        go_wp2_with (at_builtin; refine wpList_append_text1 rfl _ _ rfl (w.heap.size + 1) _ k (pcs S k) T rfl O1.out wr.heap.size rfl hc1 (by omega) hb2 ?_)
        intro v' w2 o2 g2
        have O2 := hide o2
        have B2 := hide (((HB.out.alloc HB.out.size (.cells #[.string T] 9))).grown g2 (by have := HB.out.size; simp; omega) (fun j hj => by have := GE.out j hj; omega))
        have R2 := hide ((HR.out.kept ((Below.refl _ _).alloc (Nat.le_refl _) (.cells #[.string T] 9))).grown g2 (fun j hj => by have := GE.out j hj; omega))
        clear o2 g2 hc1 hb2 O1 hct
        go_wp2
        go_roundw
        case rel =>
          refine ⟨k + 1, int_eq (by have := HF.out; omega), by have := HF.out; omega, ?_, R2.out, B2.out⟩
          rw [pcs_succ, ← hpc.out]
          exact O2.out
        case measure => simp [intOf]; omega
      · have hcc : f + 16 ≤ c := by omega
        have t2 : ¬ (S.size : Int) - (f : Int) < 16 := by omega
        have t4 : (16 : Int) ≤ (S.size : Int) - (f : Int) := by omega
        go_wp2_with fail
        refine (cutBytes_any w.heap.size S.size c f 16 _ (by omega) (by omega)).mono ?_
        rintro e' w1 ⟨rfl, rfl⟩
        have hct := HR.out.cut (f := f) (n := 16) (bs_lt S) (by rw [HLen.out]; omega)
        have hpc : Hid (ofN (((bs S).drop f).take 16) = pc S k) := by
          show _ = _
          unfold pc
          rw [HF.out]
        generalize ofN (((bs S).drop f).take 16) = T at hct hpc
        have O1 := hide (O.out.alloc (.cells #[.string T] 9))
        have hb2 : w.heap.size + 1 ≤ (wr.alloc (.cells #[.string T] 9)).heap.size := by simp; omega
        have hc1 : (wr.alloc (.cells #[.string T] 9)).cell? ⟨wr.heap.size, 0, none⟩ = some (.string T) := by rw [cell_of_row _ wr.heap.size 0 _ _ _ (heap_alloc_new wr _)]; rfl
        go_wp2_with (at_builtin; refine wpList_append_text1 rfl _ _ rfl (w.heap.size + 1) _ k (pcs S k) T rfl O1.out wr.heap.size rfl hc1 (by omega) hb2 ?_)
        intro v' w2 o2 g2
        have O2 := hide o2
        have B2 := hide (((HB.out.alloc HB.out.size (.cells #[.string T] 9))).grown g2 (by have := HB.out.size; simp; omega) (fun j hj => by have := GE.out j hj; omega))
        have R2 := hide ((HR.out.kept ((Below.refl _ _).alloc (Nat.le_refl _) (.cells #[.string T] 9))).grown g2 (fun j hj => by have := GE.out j hj; omega))
        clear o2 g2 hc1 hb2 O1 hct
        go_wp2
        go_roundw
        case rel =>
          refine ⟨k + 1, int_eq (by have := HF.out; omega), by have := HF.out; omega, ?_, R2.out, B2.out⟩
          rw [pcs_succ, ← hpc.out]
          exact O2.out
        case measure => simp [intOf]; omega
    · obtain ⟨f, hf⟩ : ∃ f, f = 16 * k := ⟨_, rfl⟩
      have HF := hide hf
      have hmany : Hid (many S = k) := by
        show (S.size + 15) / 16 = k
        omega
      rw [← hf] at hlt2 hk ⊢
      clear hf
      have t1 : ¬ (f : Int) < (S.size : Int) := by omega
      go_wp2
      go_ret2
      refine ⟨_, rfl, ?_, HB.out⟩
      rw [hmany.out]
      have := O.out
      show World.ownsRow _ _ _ _ _ (pcs S k).length _
      rw [pcs_length]
      exact ownsRow_less this (by omega)
theorem splR_facts (S : ByteArray) : (splR S).1.length ≤ 10 ∧ ∀ s ∈ (splR S).1, s.size ≤ maxLen := by
  unfold splR
  split
  · refine ⟨?_, pcs_small S _⟩
    show (pcs S (many S)).length ≤ 10
    rw [pcs_length]
    unfold many
    omega
  · exact ⟨by simp, by simp⟩
end Go.Proofs.Ytpgmocogffolaaa
