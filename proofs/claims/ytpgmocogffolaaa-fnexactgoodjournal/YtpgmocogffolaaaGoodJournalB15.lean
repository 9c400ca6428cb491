/-
  A text in pieces: the model's SplitBody and the program's, call by call. No condition but a bound on the text's length. A journal's states: the program's isState, StateBytes, StateFrom and HalfOf, call by call. Each contract says what it asks.
-/
import Derived.Test.YtpgmocogffolaaaGoodJournalB4
import Derived.Test.YtpgmocogffolaaaGoodJournalB10
import Derived.Test.YtpgmocogffolaaaGoodJournalB14
namespace Go.Proofs.Ytpgmocogffolaaa
open Go.RowKit
set_option linter.unusedVariables false

/-- The k-th piece of 16 bytes. -/
def pc (S : ByteArray) (k : Nat) : ByteArray := ofN (((bs S).drop (16 * k)).take 16)
def pcs (S : ByteArray) (k : Nat) : List ByteArray := (List.range k).map (pc S)
theorem pcs_succ (S : ByteArray) (k : Nat) : pcs S (k + 1) = pcs S k ++ [pc S k] := by simp [pcs, List.range_succ]
theorem pcs_length (S : ByteArray) (k : Nat) : (pcs S k).length = k := by simp [pcs]
theorem pc_size (S : ByteArray) (k : Nat) : (pc S k).size = min 16 (S.size - 16 * k) := by
  unfold pc
  rw [ofN_size, List.length_take, List.length_drop, bs_length]
theorem pcs_small (S : ByteArray) (k : Nat) : ∀ s ∈ pcs S k, s.size ≤ maxLen := by
  intro s hs
  simp only [pcs, List.mem_map, List.mem_range] at hs
  obtain ⟨i, _, rfl⟩ := hs
  rw [pc_size]
  unfold maxLen
  omega
/-- How many pieces there are. -/
def many (S : ByteArray) : Nat := (S.size + 15) / 16
def splR (S : ByteArray) : List ByteArray × Bool := if 1 ≤ S.size ∧ S.size ≤ 160 then (pcs S (many S), true) else ([], false)
theorem ext_take (l : List Nat) (k : Nat) : (ofN l).extract 0 k = ofN (l.take k) := by
  have e := ByteArray.extract_mk (l.map UInt8.ofNat) 0 k
  unfold ofN
  have : (ByteArray.mk (l.map UInt8.ofNat).toArray).extract 0 k = ByteArray.mk ((l.map UInt8.ofNat).take k).toArray := by simpa using e
  rw [this, List.map_take]
theorem ext_drop (l : List Nat) (k n : Nat) (h : n = l.length) : (ofN l).extract k n = ofN (l.drop k) := by
  subst h
  have e := ByteArray.extract_mk (l.map UInt8.ofNat) k l.length
  unfold ofN
  have e2 : ((l.map UInt8.ofNat).drop k).take (l.length - k) = (l.map UInt8.ofNat).drop k := List.take_of_length_le (by rw [List.length_drop, List.length_map]; exact Nat.le_refl _)
  rw [e2] at e
  rw [List.map_drop]
  exact e
theorem ownT_nil (w : World) (base : Nat) : OwnT w base (.slice none 0 0) [] := World.ownsRow_nil _ _ _ _
theorem own_ge {w : World} {base : Nat} {v : Value} {xs : List ByteArray} (h : OwnT w base v xs) : ∀ j, v.ownBlock = some j → base ≤ j := by
  intro j hj
  rcases h.2 with ⟨rfl, _⟩ | ⟨g, cap, cur, rfl, hb, _⟩
  · simp [Value.ownBlock] at hj
  · simp [Value.ownBlock] at hj
    omega
theorem ownsRow_less {w : World} {base base' n : Nat} {v : Value} {xs : List Value} (h : w.ownsRow base 9 1 v n xs) (hb : base' ≤ base) : w.ownsRow base' 9 1 v n xs := by
  refine ⟨h.1, ?_⟩
  rcases h.2 with hn | ⟨g, cap, cur, rfl, hb', rest⟩
  · exact .inl hn
  · exact .inr ⟨g, cap, cur, rfl, Nat.le_trans hb hb', rest⟩
theorem own_slice {w : World} {base : Nat} {v : Value} {xs : List ByteArray} (h : OwnT w base v xs) : ∃ a cap, v = .slice a xs.length cap := by
  rcases h.2 with ⟨rfl, h0⟩ | ⟨g, cap, cur, rfl, hb, _⟩
  · exact ⟨none, 0, by rw [h0]⟩
  · exact ⟨_, cap, rfl⟩
theorem OwnT.wide {w : World} {base n : Nat} {v : Value} {xs : List ByteArray} (h : OwnT w base v xs) (hn : n = xs.length) : w.ownsRow base 9 1 v n (xs.map Value.string) := by rw [hn]; exact h

set_option maxRecDepth 100000 in
set_option maxHeartbeats 800000 in
theorem sSplitBody_calls (S : ByteArray) (w : World) (hS : S.size ≤ maxLen) :
    Calls Try.prog 108 #[.string S] w fun e w' => ∃ v, e = .returned (.tuple #[v, .bool (splR S).2]) ∧ OwnT w' w.heap.size v (splR S).1 ∧ Below w.heap.size w w' := by
  unfold maxLen at hS
  by_cases hg : 1 ≤ S.size ∧ S.size ≤ 160
  case neg =>
    have er : splR S = ([], false) := if_neg hg
    rw [er]
    clear er
    go_enter Try.func108, Try.ntmps108
    go_wp2_with fail
    refine (l1In_no _ _ _ _ (by omega)).mono ?_
    rintro e w1 ⟨rfl, rfl⟩
    go_wp2
    go_ret2
    exact ⟨_, rfl, ownT_nil _ _, Below.refl _ _⟩
  have er : splR S = (pcs S (many S), true) := if_pos hg
  rw [er]
  clear er
  obtain ⟨h1, h160⟩ := hg
  have hlen := bs_length S
  have HLen := hide hlen
  clear hlen
  go_enter Try.func108, Try.ntmps108
  go_wp2_with fail
  refine (l1In_yes _ _ _ _ (by omega) (by omega)).mono ?_
  rintro e w1 ⟨rfl, rfl⟩
  go_wp2
  go_loopw [0, 4] (fun vs vo wr => ∃ k : Nat, vs = .string (ofN ((bs S).drop (16 * k))) ∧ 16 * k < S.size ∧ OwnT wr w.heap.size vo (pcs S k) ∧ Below w.heap.size w wr) (fun vs _ _ => match vs with | .string s => s.size | _ => 0)
  case atStart => exact ⟨0, by rw [Nat.mul_zero, List.drop_zero, ofN_bs], by omega, ownT_nil _ _, Below.refl _ _⟩
  case round =>
    obtain ⟨k, rfl, hk, hown, hb⟩ := hrel
    have hsz : (ofN ((bs S).drop (16 * k))).size = S.size - 16 * k := by rw [ofN_size, List.length_drop, HLen.out]
    have HB := hide hb
    obtain ⟨a0, cap0, rfl⟩ := own_slice hown
    have hpl := pcs_length S k
    have hge := own_ge hown
    have how : wr.ownsRow w.heap.size 9 1 (.slice a0 (pcs S k).length cap0) (pcs S k).length ((pcs S k).map Value.string) := hown
    rw [hpl] at hge how
    rw [hpl]
    have O := hide how
    have GE := hide hge
    clear hown hb hge hpl how
    obtain ⟨T, hT⟩ : ∃ T, T = ofN ((bs S).drop (16 * k)) := ⟨_, rfl⟩
    have HT := hide hT
    rw [← hT] at hsz ⊢
    clear hT
    by_cases h16 : 16 < S.size - 16 * k
    · have h16' : (16 : Int) < (T.size : Int) := by omega
      have hT16 : (16 : Int) ≤ (T.size : Int) := by omega
      have HSZ := hide hsz
      clear hsz
      have hpc : Hid (T.extract 0 16 = pc S k) := by
        show _ = _
        rw [HT.out]
        exact ext_take _ 16
      have O1 := hide (O.out.alloc (.cells #[.string (T.extract 0 16)] 9))
      have hb1 : w.heap.size ≤ (wr.alloc (.cells #[.string (T.extract 0 16)] 9)).heap.size := by have := HB.out.size; simp; omega
      have hc1 : (wr.alloc (.cells #[.string (T.extract 0 16)] 9)).cell? ⟨wr.heap.size, 0, none⟩ = some (.string (T.extract 0 16)) := by rw [cell_of_row _ wr.heap.size 0 _ _ _ (heap_alloc_new wr _)]; rfl
      go_wp2_with (at_builtin; refine wpList_append_text1 rfl _ _ rfl w.heap.size _ k (pcs S k) (T.extract 0 16) rfl O1.out wr.heap.size rfl hc1 (by omega) hb1 ?_)
      intro v' w2 o2 g2
      have O2 := hide o2
      have B2 := hide (((HB.out.alloc HB.out.size (.cells #[.string (T.extract 0 16)] 9))).grown g2 (by have := HB.out.size; simp; omega) GE.out)
      clear o2 g2 hc1 hb1 O1
      have hsl : T.extract 16 T.size = ofN ((bs S).drop (16 * (k + 1))) := by
        rw [HT.out, ext_drop _ 16 _ (by rw [ofN_size]), List.drop_drop]
        congr 2
      have HSL := hide hsl
      clear hsl
      go_wp2
      go_roundw
      case rel =>
        refine ⟨k + 1, by rw [HSL.out], by omega, ?_, B2.out⟩
        rw [pcs_succ, ← hpc.out]
        exact O2.out
      case measure =>
        simp only []
        rw [HSL.out, ofN_size, List.length_drop, HLen.out]
        have := HSZ.out
        omega
    · have h16' : ¬ (16 : Int) < (T.size : Int) := by omega
      have hpc : Hid (T = pc S k) := by
        show _ = _
        rw [HT.out]
        unfold pc
        rw [List.take_of_length_le (by rw [List.length_drop, HLen.out]; omega)]
      have hmany : Hid (many S = k + 1) := by
        show (S.size + 15) / 16 = k + 1
        omega
      have O1 := hide (O.out.alloc (.cells #[.string T] 9))
      have hb1 : w.heap.size ≤ (wr.alloc (.cells #[.string T] 9)).heap.size := by have := HB.out.size; simp; omega
      have hc1 : (wr.alloc (.cells #[.string T] 9)).cell? ⟨wr.heap.size, 0, none⟩ = some (.string T) := by rw [cell_of_row _ wr.heap.size 0 _ _ _ (heap_alloc_new wr _)]; rfl
      clear hsz
      go_wp2_with (at_builtin; refine wpList_append_text1 rfl _ _ rfl w.heap.size _ k (pcs S k) T rfl O1.out wr.heap.size rfl hc1 (by omega) hb1 ?_)
      intro v' w2 o2 g2
      have O2 := hide o2
      have B2 := hide (((HB.out.alloc HB.out.size (.cells #[.string T] 9))).grown g2 (by have := HB.out.size; simp; omega) GE.out)
      clear o2 g2 hc1 hb1 O1
      go_wp2
      go_ret2
      refine ⟨_, rfl, ?_, B2.out⟩
      rw [hmany.out, pcs_succ, ← hpc.out]
      exact O2.out

theorem BRow.grown {w w' : World} {g m : Nat} {l : List Nat} {r : Option Nat} (h : BRow w g m l) (hg : w.grownBy w' r) (hne : ∀ j, r = some j → g < j) : BRow w' g m l := by
  have hl := h.lt
  obtain ⟨C, h1, h2⟩ := h
  refine ⟨C, ?_, h2⟩
  rw [hg.block g hl (fun e => by have := hne g e.symm; omega)]
  exact h1

set_option maxRecDepth 100000 in
set_option maxHeartbeats 1600000 in
theorem splitBody_calls (S : ByteArray) (w : World) (hS : S.size ≤ maxLen) :
    Calls Try.prog 109 #[.string S] w fun e w' => ∃ v, e = .returned (.tuple #[v, .bool (splR S).2]) ∧ OwnT w' w.heap.size v (splR S).1 ∧ Below w.heap.size w w' := by
  unfold maxLen at hS
  by_cases hg1 : 1 ≤ S.size
  case neg =>
    have er : splR S = ([], false) := if_neg (fun h => hg1 h.1)
    rw [er]
    clear er
    have h' : (S.size : Int) < 1 := by omega
    go_enter Try.func109, Try.ntmps109
    go_wp2
    go_ret2
    exact ⟨_, rfl, ownT_nil _ _, Below.refl _ _⟩
  by_cases hg2 : S.size ≤ 160
  case neg =>
    have er : splR S = ([], false) := if_neg (fun h => hg2 h.2)
    rw [er]
    clear er
    have h' : ¬ (S.size : Int) < 1 := by omega
    have h2' : (160 : Int) < (S.size : Int) := by omega
    go_enter Try.func109, Try.ntmps109
    go_wp2
    go_ret2
    exact ⟨_, rfl, ownT_nil _ _, Below.refl _ _⟩
  have er : splR S = (pcs S (many S), true) := if_pos ⟨hg1, hg2⟩
  rw [er]
  clear er
  have h1' : ¬ (S.size : Int) < 1 := by omega
  have h2' : ¬ (160 : Int) < (S.size : Int) := by omega
  have hlen := bs_length S
  have HLen := hide hlen
  clear hlen
  have hcv := conv_bytes S w
  have hr := bytesW_row S w
  have hb1 := bytesW_below S w
  have hc28 := bytesC_ge S w
  generalize bytesC S w = c at hcv hr hc28
  generalize bytesW S w = W at hcv hr hb1
  have hlt : w.heap.size < W.heap.size := hr.lt
  have RR := hide hr
  have S1 := hide hb1
  have O0 : Hid (OwnT (W.alloc (.cells #[] 9)) (w.heap.size + 1) (.slice (some ⟨W.heap.size, 0, none⟩) 0 0) []) := by
    show World.ownsRow _ _ _ _ _ _ _
    have := World.ownsRow_lit (base := w.heap.size + 1) (e := 9) (size := 1) W #[] 0 hlt (by unfold maxLen; omega) (by simp)
    simpa using this
  clear hr hb1
  go_enter Try.func109, Try.ntmps109
  go_wp2
  go_loopw [5, 6] (fun vo vf wr => ∃ k : Nat, vf = .int .i64 ((16 * k : Nat) : Int) ∧ 16 * k < S.size + 16 ∧ OwnT wr (w.heap.size + 1) vo (pcs S k) ∧ BRow wr w.heap.size c (bs S) ∧ Below w.heap.size w wr) (fun _ vf _ => (S.size + 16) - (intOf vf).toNat)
  case atStart => exact ⟨0, rfl, by omega, O0.out, RR.out.kept ((Below.refl _ _).alloc (Nat.le_refl _) _), S1.out.alloc (Nat.le_of_lt hlt) _⟩
  case round =>
    obtain ⟨k, rfl, hk, hown, hrow, hb⟩ := hrel
    have HB := hide hb
    obtain ⟨a0, cap0, rfl⟩ := own_slice hown
    have hpl := pcs_length S k
    have hge := own_ge hown
    have how : wr.ownsRow (w.heap.size + 1) 9 1 (.slice a0 (pcs S k).length cap0) (pcs S k).length ((pcs S k).map Value.string) := hown
    rw [hpl] at hge how
    rw [hpl]
    have O := hide how
    have GE := hide hge
    have HR := hide hrow
    have hwl : w.heap.size < wr.heap.size := hrow.lt
    clear hown hb hge hpl how hrow
    by_cases hlt2 : 16 * k < S.size
    · obtain ⟨f, hf⟩ : ∃ f, f = 16 * k := ⟨_, rfl⟩
      have HF := hide hf
      have hk10 : k ≤ 10 := by omega
      rw [← hf] at hlt2 hk ⊢
      clear hf
      have t1 : (f : Int) < (S.size : Int) := by omega
      by_cases hfull : S.size < f + 16
      · obtain ⟨n, hn⟩ : ∃ n, n = S.size - f := ⟨_, rfl⟩
        have hsub : Hid ((S.size : Int) - (f : Int) = (n : Int)) := by show _ = _; omega
        have hn16 : n < 16 := by omega
        have hfn : f + n = S.size := by omega
        have HFN := hide hfn
        have hfn' : f + n ≤ S.size := by omega
        have hcc : f + n ≤ c := by omega
        have t2 : (S.size : Int) - (f : Int) < 16 := by omega
        have t3 : ¬ (16 : Int) < (S.size : Int) - (f : Int) := by omega
        have t4 : ¬ (16 : Int) ≤ (S.size : Int) - (f : Int) := by omega
        clear hn hfn
        go_wp2_with fail
        rw [hsub.out]
        refine (cutBytes_any w.heap.size S.size c f n _ (by omega) (by omega)).mono ?_
        rintro e' w1 ⟨rfl, rfl⟩
        have hct := HR.out.cut (f := f) (n := n) (bs_lt S) (by rw [HLen.out]; omega)
        have hpc : Hid (ofN (((bs S).drop f).take n) = pc S k) := by
          show _ = _
          unfold pc
          rw [HF.out]
          rw [List.take_of_length_le (by rw [List.length_drop, HLen.out]; have := HF.out; have := HFN.out; omega), List.take_of_length_le (by rw [List.length_drop, HLen.out]; have := HF.out; have := HFN.out; omega)]
        generalize ofN (((bs S).drop f).take n) = T at hct hpc
        have O1 := hide (O.out.alloc (.cells #[.string T] 9))
        have hb2 : w.heap.size + 1 ≤ (wr.alloc (.cells #[.string T] 9)).heap.size := by simp; omega
        have hc1 : (wr.alloc (.cells #[.string T] 9)).cell? ⟨wr.heap.size, 0, none⟩ = some (.string T) := by rw [cell_of_row _ wr.heap.size 0 _ _ _ (heap_alloc_new wr _)]; rfl
        go_wp2_with (at_builtin; refine wpList_append_text1 rfl _ _ rfl (w.heap.size + 1) _ k (pcs S k) T rfl O1.out wr.heap.size rfl hc1 (by omega) hb2 ?_)
        intro v' w2 o2 g2
        have O2 := hide o2
        have B2 := hide (((HB.out.alloc HB.out.size (.cells #[.string T] 9))).grown g2 (by have := HB.out.size; simp; omega) (fun j hj => by have := GE.out j hj; omega))
        have R2 := hide ((HR.out.kept ((Below.refl _ _).alloc (Nat.le_refl _) (.cells #[.string T] 9))).grown g2 (fun j hj => by have := GE.out j hj; omega))
        clear o2 g2 hc1 hb2 O1 hct
        go_wp2
        go_roundw
        case rel =>
          refine ⟨k + 1, int_eq (by have := HF.out; omega), by have := HF.out; omega, ?_, R2.out, B2.out⟩
          rw [pcs_succ, ← hpc.out]
          exact O2.out
        case measure => simp [intOf]; omega
      · have hcc : f + 16 ≤ c := by omega
        have t2 : ¬ (S.size : Int) - (f : Int) < 16 := by omega
        have t4 : (16 : Int) ≤ (S.size : Int) - (f : Int) := by omega
        go_wp2_with fail
        refine (cutBytes_any w.heap.size S.size c f 16 _ (by omega) (by omega)).mono ?_
        rintro e' w1 ⟨rfl, rfl⟩
        have hct := HR.out.cut (f := f) (n := 16) (bs_lt S) (by rw [HLen.out]; omega)
        have hpc : Hid (ofN (((bs S).drop f).take 16) = pc S k) := by
          show _ = _
          unfold pc
          rw [HF.out]
        generalize ofN (((bs S).drop f).take 16) = T at hct hpc
        have O1 := hide (O.out.alloc (.cells #[.string T] 9))
        have hb2 : w.heap.size + 1 ≤ (wr.alloc (.cells #[.string T] 9)).heap.size := by simp; omega
        have hc1 : (wr.alloc (.cells #[.string T] 9)).cell? ⟨wr.heap.size, 0, none⟩ = some (.string T) := by rw [cell_of_row _ wr.heap.size 0 _ _ _ (heap_alloc_new wr _)]; rfl
        go_wp2_with (at_builtin; refine wpList_append_text1 rfl _ _ rfl (w.heap.size + 1) _ k (pcs S k) T rfl O1.out wr.heap.size rfl hc1 (by omega) hb2 ?_)
        intro v' w2 o2 g2
        have O2 := hide o2
        have B2 := hide (((HB.out.alloc HB.out.size (.cells #[.string T] 9))).grown g2 (by have := HB.out.size; simp; omega) (fun j hj => by have := GE.out j hj; omega))
        have R2 := hide ((HR.out.kept ((Below.refl _ _).alloc (Nat.le_refl _) (.cells #[.string T] 9))).grown g2 (fun j hj => by have := GE.out j hj; omega))
        clear o2 g2 hc1 hb2 O1 hct
        go_wp2
        go_roundw
        case rel =>
          refine ⟨k + 1, int_eq (by have := HF.out; omega), by have := HF.out; omega, ?_, R2.out, B2.out⟩
          rw [pcs_succ, ← hpc.out]
          exact O2.out
        case measure => simp [intOf]; omega
    · obtain ⟨f, hf⟩ : ∃ f, f = 16 * k := ⟨_, rfl⟩
      have HF := hide hf
      have hmany : Hid (many S = k) := by
        show (S.size + 15) / 16 = k
        omega
      rw [← hf] at hlt2 hk ⊢
      clear hf
      have t1 : ¬ (f : Int) < (S.size : Int) := by omega
      go_wp2
      go_ret2
      refine ⟨_, rfl, ?_, HB.out⟩
      rw [hmany.out]
      have := O.out
      show World.ownsRow _ _ _ _ _ (pcs S k).length _
      rw [pcs_length]
      exact ownsRow_less this (by omega)
theorem splR_facts (S : ByteArray) : (splR S).1.length ≤ 10 ∧ ∀ s ∈ (splR S).1, s.size ≤ maxLen := by
  unfold splR
  split
  · refine ⟨?_, pcs_small S _⟩
    show (pcs S (many S)).length ≤ 10
    rw [pcs_length]
    unfold many
    omega
  · exact ⟨by simp, by simp⟩
end Go.Proofs.Ytpgmocogffolaaa

namespace Go.Proofs.Ytpgmocogffolaaa
open Go.RowKit
set_option linter.unusedVariables false
set_option linter.unusedSimpArgs false

theorem ZRow.convAt {w : World} {g o n cap : Nat} {l : List Nat} (h : ZRow w g l) (hl : ∀ b ∈ l, b < 256) (hn : o + n ≤ l.length) :
    (convert 121 9 (.slice (some ⟨g, o, none⟩) n cap)).run Try.prog w = .ok (.string (ofN ((l.drop o).take n))) w := by
  have := run_convert_bytes_back (P := Try.prog) w 121 9 5 ⟨g, o, none⟩ cap (((l.drop o).take n).map UInt8.ofNat) Try.underlying121 Try.underlying5 Try.underlying9 (fun j hj => by
    have hj' : j < n := by simp at hj; omega
    have hadd : (⟨g, o, none⟩ : Addr).add j = ⟨g, o + j, none⟩ := by unfold Addr.add; split <;> simp_all
    rw [hadd, h.cell (o + j) (by omega), List.getD_eq_getElem?_getD, List.getElem?_eq_getElem (by omega), List.getElem_map, List.getElem_take, List.getElem_drop, Option.getD_some]
    rw [UInt8.toNat_ofNat', Nat.mod_eq_of_lt (hl _ (List.getElem_mem _))])
  rw [List.length_map, List.length_take, List.length_drop, Nat.min_eq_left (by omega)] at this
  exact this
theorem rdAtJ {w : World} {a : Option Addr} {n cap : Nat} {xs : List Int} (h : Rd w (.slice a n cap) xs) (i : Nat) (hi : i < xs.length) : ∃ b off, a = some ⟨b, off, none⟩ ∧ w.cell? ⟨b, off + i, none⟩ = some (.int .i64 (xs.getD i 0)) := by
  obtain ⟨a', cap', e, h1, h2, h3⟩ := h
  simp only [Value.slice.injEq] at e
  obtain ⟨rfl, _, rfl⟩ := e
  rcases h3 with rfl | ⟨b, off, rfl, hlt, hc⟩
  · simp at hi
  · exact ⟨b, off, rfl, hc i hi⟩

theorem bol_exJ (p : Prop) : ∃ t : Bool, t = true ↔ p := by
  by_cases h : p
  · exact ⟨true, fun _ => h, fun _ => rfl⟩
  · exact ⟨false, fun e => by simp at e, fun e => absurd e h⟩

set_option maxRecDepth 100000 in
theorem isValueJ_calls (x : Int) (t : Bool) (w : World) (ht : t = true ↔ (0 ≤ x ∧ x ≤ 65535)) :
    Calls Try.prog 148 #[.int .i64 x] w fun e w' => e = .returned (.bool t) ∧ w = w' := by
  by_cases h1 : 0 ≤ x
  · by_cases h2 : x ≤ 65535
    · obtain rfl : t = true := ht.2 ⟨h1, h2⟩
      clear ht
      go_enter Try.func148, Try.ntmps148
      go_wp2
      go_ret
      exact ⟨rfl, rfl⟩
    · obtain rfl : t = false := by cases t with | false => rfl | true => exact absurd (ht.1 rfl).2 h2
      clear ht
      go_enter Try.func148, Try.ntmps148
      go_wp2
      go_ret
      exact ⟨rfl, rfl⟩
  · obtain rfl : t = false := by cases t with | false => rfl | true => exact absurd (ht.1 rfl).1 h1
    clear ht
    have h1b : decide (0 ≤ x) = false := decide_eq_false h1
    go_enter Try.func148, Try.ntmps148
    go_wp2
    go_ret
    exact ⟨rfl, rfl⟩
set_option maxRecDepth 100000 in
set_option maxHeartbeats 800000 in
theorem allValues_calls (v : Value) (ks : List Int) (y : Bool) (w : World) (hv : Rd w v ks) (hy : y = true ↔ ∀ i, i < ks.length → 0 ≤ ks.getD i 0 ∧ ks.getD i 0 ≤ 65535) :
    Calls Try.prog 95 #[v, .func (.func 148) #[] #[]] w fun e w' => e = .returned (.bool y) ∧ w = w' := by
  have R := hide hv
  have HY := hide hy
  obtain ⟨a, cap, rfl, mh, hcm, _⟩ := hv
  have hm := hcm.1
  unfold maxLen at hm
  clear hy hcm
  go_enter Try.func95, Try.ntmps95
  go_wp2
  go_loop [9] (fun vi => ∃ k : Nat, k ≤ ks.length ∧ vi = .int .i64 k ∧ ∀ i, i < k → 0 ≤ ks.getD i 0 ∧ ks.getD i 0 ≤ 65535) (fun vi => ks.length - (intOf vi).toNat)
  case atStart => exact ⟨0, Nat.zero_le _, rfl, fun i hi => by omega⟩
  case round =>
    obtain ⟨k, hk, rfl, hall⟩ := hrel
    have A := hide hall
    clear hall
    by_cases hlt : k < ks.length
    · have hlt' : (k : Int) < (ks.length : Int) := by omega
      obtain ⟨b, off, rfl, hc1⟩ := rdAtJ R.out k hlt
      have X0 := hide (fun h : ∀ i, i < ks.length → 0 ≤ ks.getD i 0 ∧ ks.getD i 0 ≤ 65535 => h k hlt)
      have X1 := hide (fun (h : 0 ≤ ks.getD k 0 ∧ ks.getD k 0 ≤ 65535) i (hi : i < k + 1) => if e : i = k then (by rw [e]; exact h : 0 ≤ ks.getD i 0 ∧ ks.getD i 0 ≤ 65535) else A.out i (by omega))
      generalize ks.getD k 0 = x at hc1 X0 X1
      obtain ⟨q, hq⟩ := bol_exJ (0 ≤ x ∧ x ≤ 65535)
      have HC := hide (fun W => isValueJ_calls x q W hq)
      cases q with
      | true =>
        have HQ := hide (hq.1 rfl)
        clear hq
        go_wp2_with (go_at_call 148; refine (HC.out _).mono ?_; rintro e w' ⟨rfl, rfl⟩)
        go_round
        case rel => exact ⟨k + 1, by omega, by go_num, X1.out HQ.out⟩
        case measure => simp [intOf]; omega
      | false =>
        have HQ : Hid (¬ (0 ≤ x ∧ x ≤ 65535)) := fun h => by have := hq.2 h; simp at this
        clear hq
        go_wp2_with (go_at_call 148; refine (HC.out _).mono ?_; rintro e w' ⟨rfl, rfl⟩)
        go_ret
        obtain rfl : y = false := by
          cases y with
          | false => rfl
          | true => exact absurd (X0.out (HY.out.1 rfl)) HQ.out
        exact ⟨rfl, rfl⟩
    · obtain rfl : k = ks.length := by omega
      obtain rfl : y = true := HY.out.2 A.out
      go_wp2
      go_ret
      exact ⟨rfl, rfl⟩
set_option maxRecDepth 100000 in
set_option maxHeartbeats 800000 in
theorem isState_calls (v : Value) (vs : List Int) (t : Bool) (w : World) (h : Rd w v vs) (ht : t = true ↔ jsP vs) :
    Calls Try.prog 119 #[v] w fun e w' => e = .returned (.bool t) ∧ w = w' := by
  have R := hide h
  obtain ⟨a, cap, rfl, mh, hcm, _⟩ := h
  have hm := hcm.1
  unfold maxLen at hm
  clear hcm
  by_cases h6 : vs.length = 6
  · have h6' : (vs.length : Int) = 6 := by omega
    have AV := hide (fun W h => allValues_calls (.slice a vs.length cap) vs t W h (ht.trans ⟨fun h => h.1, fun h => ⟨h, h6⟩⟩))
    have H6 := hide h6
    clear ht h6
    go_enter Try.func119, Try.ntmps119
    go_wp2_with (go_at_call 95; refine (AV.out _ R.out).mono ?_; rintro e w' ⟨rfl, rfl⟩)
    go_ret
    exact ⟨by simp, rfl⟩
  · have h6' : ¬ (vs.length : Int) = 6 := by omega
    have h6b : ((vs.length : Int) == 6) = false := by simp; omega
    obtain rfl : t = false := by cases t with | false => rfl | true => exact absurd (ht.1 rfl).2 h6
    clear ht h6
    go_enter Try.func119, Try.ntmps119
    go_wp2
    go_ret
    exact ⟨rfl, rfl⟩
/-- What StateBytes answers. -/
def sbR (t : Bool) (vs : List Int) : List ByteArray := bif t then jsT vs else []
set_option maxRecDepth 100000 in
set_option maxHeartbeats 1600000 in
theorem stateBytes_calls (v : Value) (vs : List Int) (t : Bool) (w : World) (h : Rd w v vs) (ht : t = true ↔ jsP vs) :
    Calls Try.prog 125 #[v] w fun e w' => ∃ v', e = .returned (.tuple #[v', .bool t]) ∧ OwnT w' w.heap.size v' (sbR t vs) ∧ Below w.heap.size w w' := by
  have R := hide h
  have IS := hide (fun W h => isState_calls v vs t W h ht)
  obtain ⟨a, cap, rfl, mh, hcm, _⟩ := h
  have hm := hcm.1
  unfold maxLen at hm
  clear hcm
  cases t with
  | false =>
    show Calls _ _ _ _ fun e w' => ∃ v', e = .returned (.tuple #[v', .bool false]) ∧ OwnT w' w.heap.size v' [] ∧ _
    clear ht
    go_enter Try.func125, Try.ntmps125
    go_wp2_with fail
    refine (IS.out _ R.out).mono ?_
    rintro e w1 ⟨rfl, rfl⟩
    go_wp2
    go_ret2
    exact ⟨_, rfl, ownT_nil _ _, Below.refl _ _⟩
  | true =>
    have hj := ht.1 rfl
    show Calls _ _ _ _ fun e w' => ∃ v', e = .returned (.tuple #[v', .bool true]) ∧ OwnT w' w.heap.size v' (jsT vs) ∧ _
    have h6 : Hid (vs.length = 6) := hj.2
    have J := hide hj
    have SM := hide (jsB_small vs hj.1)
    have H6 := hide h6.out
    clear ht hj h6
    have OL : Hid (∀ W : World, w.heap.size ≤ W.heap.size → OwnT (W.alloc (.cells #[.string (ofN ((jsB vs).take 6)), .string (ofN ((jsB vs).drop 6))] 9)) w.heap.size (.slice (some ⟨W.heap.size, 0, none⟩) 2 2) (jsT vs)) := by
      show ∀ W : World, _
      intro W hW
      have := World.ownsRow_lit (base := w.heap.size) (e := 9) (size := 1) W #[.string (ofN ((jsB vs).take 6)), .string (ofN ((jsB vs).drop 6))] 2 hW (by unfold maxLen; omega) (by simp)
      simpa [jsT, OwnT] using this
    go_enter Try.func125, Try.ntmps125
    go_wp2_with fail
    refine (IS.out _ R.out).mono ?_
    rintro e w1 ⟨rfl, rfl⟩
    go_wp2_with (at_make; refine wpList_make_bytes rfl _ _ rfl w.heap.size _ _ 12 rfl rfl (by omega) (by omega) (by omega) (Nat.le_refl _) ?_)
    intro w2 hown hgrow
    have z2 := zrow_made hown
    have Z2 : Hid (ZRow w2 w.heap.size (rowJ vs 6 0)) := by rw [rowJ_zero]; exact z2
    have B2 := hide ((Below.refl w.heap.size w).trans (grown_none hgrow))
    clear hown hgrow z2
    go_wp2
    go_loopw [13] (fun vk wr => ∃ k : Nat, vk = .int .i64 k ∧ k ≤ 6 ∧ ZRow wr w.heap.size (rowJ vs 6 k) ∧ Below w.heap.size w wr) (fun vk _ => 6 - (intOf vk).toNat)
    case atStart => exact ⟨0, rfl, by omega, Z2.out, B2.out⟩
    case round =>
      obtain ⟨k, rfl, hk, hz, hb⟩ := hrel
      have HZ := hide hz
      have HB := hide hb
      clear hz hb Z2 B2
      by_cases hlt : k < 6
      · have hlt' : (k : Int) < (vs.length : Int) := by have := H6.out; omega
        obtain ⟨b, off, rfl, hc1⟩ := rdAtJ (R.out.below HB.out) k (by have := H6.out; omega)
        have hx := J.out.1 k (by have := H6.out; omega)
        have RS := hide (rowJ_set vs 6 k H6.out hlt)
        obtain ⟨x, hx2⟩ : ∃ x : Nat, vs.getD k 0 = (x : Int) := ⟨(vs.getD k 0).toNat, by omega⟩
        rw [hx2] at hc1 hx RS
        have k2 : k * 2 ≤ 12 := by omega
        have hZl := rowJ_len vs 6 k H6.out hk
        obtain ⟨y, hy⟩ : ∃ y, y = 2 * k := ⟨_, rfl⟩
        rw [← hy] at RS
        have PH := hide (putHigh_calls w.heap.size y (12 - y) (12 - y) x (rowJ vs 6 k) wr HZ.out (by rw [hZl]; omega) (by omega) (by omega))
        have e1 : (k : Int) * 2 = (y : Int) := by omega
        have t1 : (y : Int) ≤ 12 := by omega
        have t2 : ¬ 12 = y := by omega
        have t3 : y ≤ 12 := by omega
        clear hx2 hx hZl hy
        go_wp2_with fail
        refine PH.out.mono ?_
        rintro e w4 ⟨rfl, z4, g4⟩
        have Z4 : Hid (ZRow w4 w.heap.size (rowJ vs 6 (k + 1))) := by rw [← RS.out]; exact z4
        have B4 := hide (HB.out.grown g4 HB.out.size (fun j hj => by cases hj; exact Nat.le_refl _))
        clear z4 g4 e1 t1 t2 t3 PH RS
        go_wp2
        go_roundw
        case rel => exact ⟨k + 1, by go_num, by omega, Z4.out, B4.out⟩
        case measure => simp [intOf]; omega
      · obtain rfl : k = 6 := by omega
        have hz := HZ.out
        rw [rowJ_end vs 6 H6.out] at hz
        have hl : (jsB vs).length = 12 := by rw [jsB_len, H6.out]
        have hnl : ¬ (6 : Int) < (vs.length : Int) := by have := H6.out; omega
        have c1 := (hz.drew).convAt (o := 0) (n := 6) (cap := 12) SM.out (by omega)
        have c2 := (hz.drew).convAt (o := 6) (n := 6) (cap := 6) SM.out (by omega)
        rw [List.drop_zero] at c1
        rw [List.take_of_length_le (by rw [List.length_drop]; omega)] at c2
        clear hz hl
        go_wp2
        go_region
        go_wp2
        go_ret2
        exact ⟨_, rfl, OL.out _ (Nat.le_trans HB.out.size (Nat.le_refl _)), (HB.out.drew).alloc HB.out.size _⟩

set_option maxRecDepth 100000 in
theorem isHalfJ_calls (s : ByteArray) (w : World) (hs : s.size ≤ maxLen) : Calls Try.prog 147 #[.string s] w fun e w' => e = .returned (.bool (decide (s.size = 6))) ∧ w = w' := by
  unfold maxLen at hs
  by_cases h : s.size = 6
  · have h' : (s.size : Int) = 6 := by omega
    go_enter Try.func147, Try.ntmps147
    go_wp2
    go_ret
    exact ⟨by simp [h], rfl⟩
  · have h' : ¬ (s.size : Int) = 6 := by omega
    have h2 : ((s.size : Int) == 6) = false := by simp; omega
    go_enter Try.func147, Try.ntmps147
    go_wp2
    go_ret
    exact ⟨by simp [h], rfl⟩
set_option maxRecDepth 100000 in
set_option maxHeartbeats 400000 in
theorem allHalves_calls (v : Value) (xs : List ByteArray) (w : World) (h : RdT w v xs) :
    Calls Try.prog 128 #[v, .func (.func 147) #[] #[]] w fun e w' => e = .returned (.bool (decide (∀ i, i < xs.length → (xs.getD i ⟨#[]⟩).size = 6))) ∧ w = w' := by
  obtain ⟨a, cap, rfl, h1, h2, h4, h3⟩ := h
  have hm : xs.length ≤ maxLen := by omega
  unfold maxLen at hm
  have H3 := hide h3
  have H4 := hide h4
  clear h3 h4 h2 h1
  go_enter Try.func128, Try.ntmps128
  go_wp2
  go_loop [9] (fun vi => ∃ k : Nat, k ≤ xs.length ∧ vi = .int .i64 k ∧ ∀ i, i < k → (xs.getD i ⟨#[]⟩).size = 6) (fun vi => xs.length - (intOf vi).toNat)
  case atStart => exact ⟨0, Nat.zero_le _, rfl, fun i hi => by omega⟩
  case round =>
    obtain ⟨k, hk, rfl, hall⟩ := hrel
    have HA := hide hall
    clear hall
    by_cases hlt : k < xs.length
    · rcases H3.out with h3 | ⟨b, off, rfl, hbs, hc⟩
      · subst h3; simp at hlt
      have hc1 := hc k hlt
      have hz : (xs.getD k ⟨#[]⟩).size ≤ maxLen := by
        apply H4.out
        rw [List.getD_eq_getElem?_getD, List.getElem?_eq_getElem hlt]
        exact List.getElem_mem hlt
      clear hc
      obtain ⟨z, hzz⟩ : ∃ z, z = xs.getD k ⟨#[]⟩ := ⟨_, rfl⟩
      rw [← hzz] at hc1 hz
      have HZ := hide hzz
      have hlt' : (k : Int) < (xs.length : Int) := by omega
      clear hzz
      go_wp2_with fail
      refine (isHalfJ_calls z _ hz).mono ?_
      rintro e w1 ⟨rfl, rfl⟩
      by_cases h16 : z.size = 6
      · rw [decide_eq_true h16]
        have H16 := hide h16
        clear h16
        go_wp2
        go_round
        case rel =>
          refine ⟨k + 1, by omega, by go_num, fun i hi => ?_⟩
          by_cases e : i = k
          · subst e; rw [← HZ.out]; exact H16.out
          · exact HA.out i (by omega)
        case measure => simp [intOf]; omega
      · rw [decide_eq_false h16]
        have H16 := hide h16
        clear h16
        go_wp2
        go_ret
        refine ⟨ret_bool ?_, rfl⟩
        symm
        exact decide_eq_false (fun h => H16.out (by rw [HZ.out]; exact h k hlt))
    · obtain rfl : k = xs.length := by omega
      go_wp2
      go_ret
      exact ⟨ret_bool (decide_eq_true HA.out).symm, rfl⟩
theorem jf_fl9 {l : List ByteArray} (h : jfP l) : fl9 l = bs (l.getD 0 ⟨#[]⟩) ++ bs (l.getD 1 ⟨#[]⟩) ∧ (fl9 l).length = 12 := by
  obtain ⟨h2, h6⟩ := h
  match l, h2 with
  | [a, b], _ =>
    have e0 := h6 0 (by simp)
    have e1 := h6 1 (by simp)
    have e : fl9 [a, b] = bs a ++ bs b := by simp [fl9]
    refine ⟨e, ?_⟩
    rw [e, List.length_append, bs_length, bs_length]
    simp at e0 e1
    omega
/-- What StateFrom answers. -/
def sfR (t : Bool) (l : List ByteArray) : List Int := bif t then jsV l else []
set_option maxRecDepth 100000 in
set_option maxHeartbeats 1600000 in
theorem stateFrom_calls (v : Value) (l : List ByteArray) (t : Bool) (w : World) (h : RdT w v l) (ht : t = true ↔ jfP l) :
    Calls Try.prog 117 #[v] w fun e w' => ∃ v', e = .returned (.tuple #[v', .bool t]) ∧ Own w' w.heap.size v' (sfR t l) ∧ Below w.heap.size w w' := by
  have R := hide h
  obtain ⟨a, cap, rfl, h1, h2, h4, h3⟩ := h
  have hm : l.length ≤ maxLen := by omega
  unfold maxLen at hm
  clear h1 h2 h3 h4
  by_cases hl : l.length = 2
  case neg =>
    have hl' : ¬ (l.length : Int) = 2 := by omega
    have hlb : ((l.length : Int) != 2) = true := by simp; omega
    obtain rfl : t = false := by cases t with | false => rfl | true => exact absurd (ht.1 rfl).1 hl
    show Calls _ _ _ _ fun e w' => ∃ v', e = .returned (.tuple #[v', .bool false]) ∧ Own w' w.heap.size v' [] ∧ _
    clear ht hl
    go_enter Try.func117, Try.ntmps117
    go_wp2
    go_ret2
    exact ⟨_, rfl, World.ownsRow_nil _ _ _ _, Below.refl _ _⟩
  have hl' : (l.length : Int) = 2 := by omega
  have hlb : ((l.length : Int) != 2) = false := by simp; omega
  have AH := hide (fun W h => allHalves_calls (.slice a l.length cap) l W h)
  cases t with
  | false =>
    have e2 : decide (∀ i, i < l.length → (l.getD i ⟨#[]⟩).size = 6) = false := decide_eq_false (fun h => by have := ht.2 ⟨hl, h⟩; simp at this)
    show Calls _ _ _ _ fun e w' => ∃ v', e = .returned (.tuple #[v', .bool false]) ∧ Own w' w.heap.size v' [] ∧ _
    rw [e2] at AH
    clear ht hl e2
    go_enter Try.func117, Try.ntmps117
    go_wp2_with (go_at_call 128; refine (AH.out _ R.out).mono ?_; rintro e w' ⟨rfl, rfl⟩)
    go_ret2
    exact ⟨_, rfl, World.ownsRow_nil _ _ _ _, Below.refl _ _⟩
  | true =>
    have J := ht.1 rfl
    have e2 : decide (∀ i, i < l.length → (l.getD i ⟨#[]⟩).size = 6) = true := decide_eq_true J.2
    obtain ⟨e3, e4⟩ := jf_fl9 J
    show Calls _ _ _ _ fun e w' => ∃ v', e = .returned (.tuple #[v', .bool true]) ∧ Own w' w.heap.size v' (jvB (bs (l.getD 0 ⟨#[]⟩) ++ bs (l.getD 1 ⟨#[]⟩)) 6) ∧ _
    rw [e2] at AH
    rw [← e3]
    have JT := hide (fun W h => joinTexts_calls (.slice a l.length cap) l W h (by omega) (by omega) (fun i hi => by rw [J.2 i hi]; omega))
    have SM := hide (fl9_small l)
    generalize fl9 l = L at e4 JT SM ⊢
    have E4 := hide e4
    have SZ : (ofN L).size = 12 := by rw [ofN_size]; exact e4
    have LB : Hid (bs (ofN L) = L) := bs_ofN SM.out
    generalize ofN L = s at JT SZ LB
    clear ht hl e2 e3 e4 J
    have BC := hide (fun W : World => bytesC_ge s W)
    go_enter Try.func117, Try.ntmps117
    go_wp2_with (first
      | (go_at_call 128; refine (AH.out _ R.out).mono ?_; rintro e w' ⟨rfl, rfl⟩)
      | fail)
    refine (JT.out _ R.out).mono ?_
    rintro e w1 ⟨rfl, b1⟩
    have hcv := conv_bytes s w1
    have hr := bytesW_row s w1
    have hb1 := bytesW_below s w1
    have hc12 := bytesC_ge s w1
    rw [LB.out] at hr
    generalize bytesC s w1 = c at hcv hr hc12
    generalize bytesW s w1 = W at hcv hr hb1
    rw [SZ] at hcv hc12
    have RR := hide hr
    have B1 := hide (b1.trans (hb1.mono b1.size))
    have gl : w.heap.size ≤ w1.heap.size := b1.size
    have gW : w1.heap.size < W.heap.size := hr.lt
    clear hr hb1 b1 SZ BC
    go_wp2_with (at_make; refine wpList_make_ints rfl _ _ rfl w.heap.size _ _ 6 rfl rfl (by omega) (by omega) (by omega) (by omega) ?_)
    intro w2 hown hgrow
    have O2 : Hid (w2.ownsRow w.heap.size 3 1 (.slice (some ⟨W.heap.size, 0, none⟩) 6 6) 6 ((rowV15 L 6 0).map fun i => .int .i64 i)) := by rw [rowV15_zero]; exact hown
    have R2 := hide (RR.out.grown hgrow (fun j hj => by cases hj))
    have B2 := hide (B1.out.trans ((grown_none hgrow).mono B1.out.size))
    have g2 : W.heap.size < w2.heap.size := (World.ownsRow.lt hown W.heap.size rfl).2
    clear hown hgrow RR B1 hcv
    go_wp2
    go_loopw [23] (fun vk wr => ∃ k : Nat, vk = .int .i64 k ∧ k ≤ 6 ∧ wr.ownsRow w.heap.size 3 1 (.slice (some ⟨W.heap.size, 0, none⟩) 6 6) 6 ((rowV15 L 6 k).map fun i => .int .i64 i) ∧ BRow wr w1.heap.size c L ∧ Below w.heap.size w wr) (fun vk _ => 6 - (intOf vk).toNat)
    case atStart => exact ⟨0, rfl, by omega, O2.out, R2.out, B2.out⟩
    case round =>
      obtain ⟨k, rfl, hk, ho, hr, hb⟩ := hrel
      have O := hide ho
      have RW := hide hr
      have HB := hide hb
      clear hb O2 R2 B2
      by_cases hlt : k < 6
      · have hlt' : (k : Int) < 6 := by omega
        obtain ⟨y, hy⟩ : ∃ y, y = 2 * k := ⟨_, rfl⟩
        have c0 := hr.cell y (by have := E4.out; omega)
        have c1 := hr.cell (y + 1) (by have := E4.out; omega)
        have x0 : L.getD y 0 < 256 := getD_lt SM.out y
        have x1 : L.getD (y + 1) 0 < 256 := getD_lt SM.out (y + 1)
        have HF := hide (fun m => highFirst_calls w1.heap.size y (12 - y) (c - y) (L.getD y 0) (L.getD (y + 1) 0) (wr.drewN m) (by simpa using c0) (by simpa using c1) x0 x1 (by omega))
        have HF0 := hide (highFirst_calls w1.heap.size y (12 - y) (c - y) (L.getD y 0) (L.getD (y + 1) 0) wr c0 c1 x0 x1 (by omega))
        have NX : Hid (((L.getD y 0 * 256 + L.getD (y + 1) 0 : Nat) : Int) = jvN L k) := by show _ = _; unfold jvN; rw [← hy]
        have e1 : (k : Int) * 2 = (y : Int) := by omega
        have t1 : (y : Int) ≤ 12 := by omega
        have t2 : ¬ c = y := by omega
        have t3 : y ≤ 12 := by omega
        have t4 : y ≤ c := by omega
        clear c0 c1 x0 x1 hy hr ho HF
        go_wp2_with fail
        refine HF0.out.mono ?_
        rintro e w4 ⟨rfl, m, rfl⟩
        rw [NX.out]
        have b4 := below_drewN' (w := wr) m
        generalize wr.drewN m = w4 at b4 ⊢
        have o4 := ownsRow_below O.out b4
        have st := o4.stored k (.int .i64 (jvN L k))
        rw [← List.map_set, rowV15_set L 6 k hlt] at st
        have ST := hide st
        have gl4 : W.heap.size < w4.heap.size := (World.ownsRow.lt o4 W.heap.size rfl).2
        obtain ⟨old, q1⟩ : ∃ old, w4.cell? ⟨W.heap.size, k, none⟩ = some old := by
          rw [o4.cellAt k hlt]
          exact ⟨_, List.getElem?_eq_getElem (by rw [List.length_map, rowV15_len L 6 k hk]; exact hlt)⟩
        have q2 := o4.frozenAt k
        have B4 := hide ((HB.out.trans (b4.mono HB.out.size)).grown st.2 (Nat.le_trans HB.out.size b4.size) (fun j hj => by cases hj; omega))
        have R4 := hide ((RW.out.kept b4).grown st.2 (fun j hj => by cases hj; exact gW))
        clear o4 st b4 e1 t1 t2 t3 t4 NX HF0 O RW
        go_wp2
        go_roundw
        case rel => exact ⟨k + 1, by go_num, by omega, ST.out.1, R4.out, B4.out⟩
        case measure => simp [intOf]; omega
      · obtain rfl : k = 6 := by omega
        have o := O.out
        rw [rowV15_end] at o
        have O9 := hide o
        clear o ho hr
        go_wp2
        go_ret2
        exact ⟨_, rfl, O9.out, HB.out⟩

set_option maxRecDepth 100000 in
theorem halfOf_calls (e : Int) (t : Bool) (w : World) (ht : t = true ↔ (0 ≤ e ∧ e ≤ 60000)) :
    Calls Try.prog 34 #[.int .i64 e] w fun x w' => x = .returned (.tuple #[.int .i64 (bif t then hlf e else 0), .bool t]) ∧ w = w' := by
  have IE := hide (isEpoch_calls e w)
  cases t with
  | false =>
    have h0 : decide (0 ≤ e ∧ e ≤ 60000) = false := decide_eq_false (fun q => by have := ht.2 q; cases this)
    rw [h0] at IE
    clear ht h0
    go_enter Try.func34, Try.ntmps34
    go_wp2_with fail
    refine IE.out.mono ?_
    rintro x w1 ⟨rfl, rfl⟩
    go_wp2
    go_ret2
    exact ⟨rfl, rfl⟩
  | true =>
      have q := ht.1 rfl
      have h0 : decide (0 ≤ e ∧ e ≤ 60000) = true := decide_eq_true q
      rw [h0] at IE
      obtain ⟨n, rfl⟩ : ∃ n : Nat, e = (n : Int) := ⟨e.toNat, by omega⟩
      clear ht h0
      have hn : n ≤ 60000 := by omega
      clear q
      have hh : hlf (n : Int) = 1 ∧ n % 2 = 0 ∨ hlf (n : Int) = 3 ∧ n % 2 = 1 := by unfold hlf; omega
      rcases hh with ⟨ha, hb⟩ | ⟨ha, hb⟩
      · have HA := hide ha
        have hm : (n : Int).tmod 2 = 0 := (Int.tmod_eq_emod_of_nonneg (by omega)).trans (by omega)
        have hm2 : (n : Int) % 2 = 0 := by omega
        clear ha
        go_enter Try.func34, Try.ntmps34
        go_wp2_with fail
        refine IE.out.mono ?_
        rintro x w1 ⟨rfl, rfl⟩
        go_wp2
        go_ret2
        exact ⟨by rw [HA.out]; rfl, rfl⟩
      · have HA := hide ha
        have hm : (n : Int).tmod 2 = 1 := (Int.tmod_eq_emod_of_nonneg (by omega)).trans (by omega)
        have hm2 : (n : Int) % 2 = 1 := by omega
        clear ha
        go_enter Try.func34, Try.ntmps34
        go_wp2_with fail
        refine IE.out.mono ?_
        rintro x w1 ⟨rfl, rfl⟩
        go_wp2
        go_ret2
        exact ⟨by rw [HA.out]; rfl, rfl⟩
end Go.Proofs.Ytpgmocogffolaaa
