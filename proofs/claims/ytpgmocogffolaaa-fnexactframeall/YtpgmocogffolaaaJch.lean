/-
  Texts put together, and counted: the program's JoinChunks and its model's, call by call. Each says what it asks of the texts' sizes.
-/
import Derived.Test.YtpgmocogffolaaaTxm
import Derived.Lib.AppendStr
namespace Go.Proofs.Ytpgmocogffolaaa
open Go.RowKit
set_option linter.unusedVariables false

def fl9 (xs : List ByteArray) : List Nat := xs.flatMap bs
theorem fl9_snoc (xs : List ByteArray) (k : Nat) (h : k < xs.length) : fl9 (xs.take (k + 1)) = fl9 (xs.take k) ++ bs (xs.getD k ⟨#[]⟩) := by
  unfold fl9
  rw [List.take_succ_eq_append_getElem h, List.flatMap_append, List.getD_eq_getElem?_getD, List.getElem?_eq_getElem h]
  simp
theorem fl9_small (xs : List ByteArray) : ∀ b ∈ fl9 xs, b < 256 := by
  intro b hb
  obtain ⟨s, _, hs⟩ := List.mem_flatMap.1 hb
  exact bs_lt s b hs
theorem fl9_len (xs : List ByteArray) (k : Nat) (hk : k ≤ xs.length) (h : ∀ i, i < xs.length → (xs.getD i ⟨#[]⟩).size ≤ 1048576) : (fl9 (xs.take k)).length ≤ 1048576 * k := by
  induction k with
  | zero => simp [fl9]
  | succ k ih =>
    rw [fl9_snoc xs k (by omega), List.length_append, bs_length]
    have := ih (by omega)
    have := h k (by omega)
    omega
theorem fl9_mono (xs : List ByteArray) (k : Nat) : (fl9 (xs.take k)).length ≤ (fl9 xs).length := by
  conv => rhs; rw [← List.take_append_drop k xs]
  unfold fl9
  rw [List.flatMap_append, List.length_append]
  exact Nat.le_add_right _ _
theorem szs_of {xs : List ByteArray} (h : ∀ i, i < xs.length → (xs.getD i ⟨#[]⟩).size ≤ 1048576) (k : Nat) : (xs.getD k ⟨#[]⟩).size ≤ 1048576 := by
  by_cases hk : k < xs.length
  · exact h k hk
  · rw [List.getD_eq_getElem?_getD, List.getElem?_eq_none (by omega)]
    exact Nat.zero_le _

theorem strCells_bs9 (s : ByteArray) : Go.Lib.strCells s = (bs s).map u8v := by
  unfold Go.Lib.strCells bs
  rw [List.map_map]
  rfl
theorem infoU8j : (Try.prog.info? 5).map (fun i => (i.zero, i.size, i.bytes)) = some (some (.int .u8 0), 1, 1) := by kernel_rfl
theorem own_conv9 {w : World} {base g n cap : Nat} {l : List Nat} (h : w.ownsRow base 5 1 (.slice (some ⟨g, 0, none⟩) n cap) n (l.map u8v)) (hl : ∀ b ∈ l, b < 256) :
    (convert 121 9 (.slice (some ⟨g, 0, none⟩) n cap)).run Try.prog w = .ok (.string (ofN l)) w := by
  have hn : l.length = n := by have := h.1; simpa using this
  have := run_convert_bytes_back (P := Try.prog) w 121 9 5 ⟨g, 0, none⟩ cap (l.map UInt8.ofNat) Try.underlying121 Try.underlying5 Try.underlying9 (fun j hj => by
    have hj' : j < l.length := by simpa using hj
    have hadd : (⟨g, 0, none⟩ : Addr).add j = ⟨g, 0 + j, none⟩ := by unfold Addr.add; split <;> simp_all
    rw [hadd, Nat.zero_add, World.ownsRow.cellAt h j (by omega), List.getElem?_map, List.getElem?_eq_getElem hj', List.getElem_map]
    show some (u8v l[j]) = _
    unfold u8v
    rw [UInt8.toNat_ofNat', Nat.mod_eq_of_lt (hl _ (List.getElem_mem hj'))])
  rw [List.length_map, hn] at this
  exact this

set_option maxRecDepth 100000 in
set_option maxHeartbeats 800000 in
theorem joinTexts_calls (v : Value) (xs : List ByteArray) (w : World) (h : RdT w v xs) (hn : xs.length ≤ 1048576) (hF : (fl9 xs).length ≤ 1048576) (hs : ∀ i, i < xs.length → (xs.getD i ⟨#[]⟩).size ≤ 1048576) :
    Calls Try.prog 145 #[v] w fun e w' => e = .returned (.string (ofN (fl9 xs))) ∧ Below w.heap.size w w' := by
  obtain ⟨a, cap, rfl, hl1, h2, h4, h3⟩ := h
  have H3 := hide h3
  have HS := hide hs
  clear h3 h4 hs hl1 h2
  obtain ⟨i0, hi, hz0, hz1, hz2⟩ := info_parts infoU8j
  have IP := hide (And.intro hi (And.intro hz0 (And.intro hz1 hz2)))
  clear hi hz0 hz1 hz2
  have O0 : Hid ((w.alloc (.cells #[] 5)).ownsRow w.heap.size 5 1 (.slice (some ⟨w.heap.size, 0, none⟩) 0 0) 0 (([] : List Nat).map u8v)) := by
    show World.ownsRow _ _ _ _ _ _ _
    have := World.ownsRow_lit (base := w.heap.size) (e := 5) (size := 1) w #[] 0 (Nat.le_refl _) (by unfold maxLen; omega) (by simp)
    simpa using this
  go_enter Try.func145, Try.ntmps145
  go_wp2
  go_loopw [3, 9] (fun vt vi wr => ∃ (k g c : Nat), k ≤ xs.length ∧ vi = .int .i64 k ∧ vt = .slice (some ⟨g, 0, none⟩) (fl9 (xs.take k)).length c ∧ wr.ownsRow w.heap.size 5 1 (.slice (some ⟨g, 0, none⟩) (fl9 (xs.take k)).length c) (fl9 (xs.take k)).length ((fl9 (xs.take k)).map u8v) ∧ Below w.heap.size w wr) (fun _ vi _ => xs.length - (intOf vi).toNat)
  case atStart => exact ⟨0, w.heap.size, 0, Nat.zero_le _, rfl, rfl, O0.out, (Below.refl _ w).alloc (Nat.le_refl _) _⟩
  case round =>
    obtain ⟨k, g, c, hk, rfl, rfl, hown, hb⟩ := hrel
    have O := hide hown
    have HB := hide hb
    have hgl : w.heap.size ≤ g := by
      rcases hown.2 with ⟨h', _⟩ | ⟨g', cap', cur, h', hbg, _⟩
      · simp at h'
      · simp at h'; omega
    have hfl := fl9_mono xs k
    by_cases hlt : k < xs.length
    · rcases H3.out with h3 | ⟨b, off, rfl, hbs, hc⟩
      · subst h3; simp at hlt
      have hc1 : wr.cell? ⟨b, off + k, none⟩ = some (.string (xs.getD k ⟨#[]⟩)) := (hb.cell (p := ⟨b, off + k, none⟩) hbs).trans (hc k hlt)
      have hz := HS.out k hlt
      have hsn := fl9_snoc xs k hlt
      obtain ⟨z, hzz⟩ : ∃ z, z = xs.getD k ⟨#[]⟩ := ⟨_, rfl⟩
      rw [← hzz] at hc1 hz hsn
      have HSN := hide hsn
      have hlt' : (k : Int) < (xs.length : Int) := by omega
      clear hzz hc hsn hown hb
      obtain ⟨m, hm2⟩ : ∃ m, m = (fl9 (xs.take k)).length := ⟨_, rfl⟩
      have HM := hide hm2
      have oo := O.out
      rw [← hm2] at oo hfl ⊢
      have OO := hide oo
      clear hm2 oo
      have hbb : w.heap.size ≤ wr.heap.size := HB.out.size
      go_wp2_with (at_builtin; refine Go.Lib.wpList_append_own_string (w := wr) rfl _ _ _ _ rfl w.heap.size 5 i0 Try.underlying121 Try.underlying9 IP.out.1 IP.out.2.1 IP.out.2.2.1 IP.out.2.2.2 _ m _ rfl OO.out z rfl (by unfold maxLen; omega) (by omega) hbb ?_)
      intro v' w2 o2 g2 hnil
      have B2 := hide (HB.out.grown g2 HB.out.size (fun j hj => by simp [Value.ownBlock] at hj; omega))
      have o3 := o2
      rw [strCells_bs9, ← List.map_append, ← HSN.out] at o3
      rcases o3.2 with ⟨h', _⟩ | ⟨g', cap', cur, h', _⟩
      · exact absurd h' hnil
      have O3 := hide o3
      have H' := hide h'
      clear o2 o3 g2 hnil h'
      go_wp2
      go_roundw
      case rel =>
        have e : (fl9 (xs.take (k + 1))).length = m + z.size := by rw [HSN.out, List.length_append, bs_length, HM.out]
        refine ⟨k + 1, g', cap', by omega, by go_num, by rw [H'.out, e], ?_, B2.out⟩
        rw [e, ← H'.out]
        exact O3.out
      case measure => simp [intOf]; omega
    · obtain rfl : k = xs.length := by omega
      have oo := O.out
      rw [List.take_length] at oo ⊢
      have hcv := own_conv9 oo (fl9_small xs)
      clear oo hown hb
      go_wp2
      go_ret
      exact ⟨rfl, HB.out⟩

abbrev jchOk (xs : List ByteArray) : Prop := xs.length ≤ 80 ∧ (fl9 xs).length ≤ 300
def jchR (xs : List ByteArray) : ByteArray × Bool := if jchOk xs then (ofN (fl9 xs), true) else (⟨#[]⟩, false)

end Go.Proofs.Ytpgmocogffolaaa
