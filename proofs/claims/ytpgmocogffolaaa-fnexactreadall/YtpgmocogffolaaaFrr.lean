/-
  What is read of a sector's bytes: the program's functions, call by call. Each contract says what it asks.
-/
import Derived.Test.YtpgmocogffolaaaFrx
namespace Go.Proofs.Ytpgmocogffolaaa
open Go.RowKit

theorem toList_inj {s t : ByteArray} (h : s.toList = t.toList) : s = t := by
  rw [ByteArray.toList_eq, ByteArray.toList_eq] at h
  obtain ⟨⟨a⟩⟩ := s
  obtain ⟨⟨b⟩⟩ := t
  simp at h
  rw [h]
theorem bs_take (s : ByteArray) (k : Nat) : bs (s.extract 0 k) = (bs s).take k := by
  obtain ⟨⟨l⟩⟩ := s
  have e := ByteArray.extract_mk l 0 k
  have e1 : (ByteArray.mk ⟨l⟩).extract 0 k = ByteArray.mk (l.take k).toArray := by simpa using e
  rw [e1]
  show ((l.take k).toArray.toList.map UInt8.toNat) = (l.map UInt8.toNat).take k
  simp [List.map_take]
theorem bs_drop (s : ByteArray) (k : Nat) : bs (s.extract k s.size) = (bs s).drop k := by
  obtain ⟨⟨l⟩⟩ := s
  have e1 : (ByteArray.mk ⟨l⟩).extract k (ByteArray.mk ⟨l⟩).size = ByteArray.mk (l.drop k).toArray := by
    have := ByteArray.extract_mk l k l.length
    rw [List.take_of_length_le (by rw [List.length_drop]; exact Nat.le_refl _)] at this
    exact this
  rw [e1]
  show ((l.drop k).toArray.toList.map UInt8.toNat) = (l.map UInt8.toNat).drop k
  simp [List.map_drop]
theorem bs_mid (s : ByteArray) (i j : Nat) : bs (s.extract i j) = ((bs s).drop i).take (j - i) := by
  obtain ⟨⟨l⟩⟩ := s
  have e1 : (ByteArray.mk ⟨l⟩).extract i j = ByteArray.mk ((l.drop i).take (j - i)).toArray := ByteArray.extract_mk l i j
  rw [e1]
  show (((l.drop i).take (j - i)).toArray.toList.map UInt8.toNat) = ((l.map UInt8.toNat).drop i).take (j - i)
  simp [List.map_take, List.map_drop]

set_option maxRecDepth 100000 in
set_option maxHeartbeats 800000 in
theorem highFirst_calls (g o len cap x y : Nat) (w : World) (h0 : w.cell? ⟨g, o, none⟩ = some (.int .u8 (x : Int))) (h1 : w.cell? ⟨g, o + 1, none⟩ = some (.int .u8 (y : Int))) (hx : x < 256) (hy : y < 256) (hl : 2 ≤ len) :
    Calls Try.prog 142 #[.slice (some ⟨g, o, none⟩) len cap] w fun e w' => e = .returned (.int .i64 ((x * 256 + y : Nat) : Int)) ∧ ∃ m, w' = w.drewN m := by
  have t1 : (0 : Int) < (len : Int) := by omega
  have t2 : (1 : Int) < (len : Int) := by omega
  go_enter Try.func142, Try.ntmps142
  go_wp2
  go_quiet (fail)
  go_wp2
  go_ret
  exact ⟨ret_int (by omega), _, rfl⟩

set_option maxRecDepth 100000 in
set_option maxHeartbeats 800000 in
theorem cutBytes_calls (g len cap f n : Nat) (w : World) (hf : f + n ≤ cap) (hc : f + n ≤ 1073741824) (hn : 0 < n) :
    Calls Try.prog 143 #[.slice (some ⟨g, 0, none⟩) len cap, .int .i64 f, .int .i64 n] w fun e w' => e = .returned (.slice (some ⟨g, f, none⟩) n n) ∧ w = w' := by
  have t1 : (f : Int) + (n : Int) ≤ (cap : Int) := by omega
  have t3 : ((f : Int) + (n : Int)).toNat = f + n := by omega
  have t4 : ¬ f + n = f := by omega
  have t5 : f + n - f = n := by omega
  go_enter Try.func143, Try.ntmps143
  go_wp2
  go_ret
  exact ⟨rfl, rfl⟩
set_option maxRecDepth 100000 in
set_option maxHeartbeats 800000 in
theorem cutBytes_none (g len cap f : Nat) (w : World) (hf : f ≤ cap) (hc : f ≤ 1073741824) :
    Calls Try.prog 143 #[.slice (some ⟨g, 0, none⟩) len cap, .int .i64 f, .int .i64 0] w fun e w' => e = .returned (.slice (some ⟨g, 0, none⟩) 0 0) ∧ w = w' := by
  have t1 : (f : Int) ≤ (cap : Int) := by omega
  go_enter Try.func143, Try.ntmps143
  go_wp2
  go_ret
  exact ⟨rfl, rfl⟩
/-- Where a piece of n bytes from f on lies. -/
def cutO (f n : Nat) : Nat := if n = 0 then 0 else f
theorem cutBytes_any (g len cap f n : Nat) (w : World) (hf : f + n ≤ cap) (hc : f + n ≤ 1073741824) :
    Calls Try.prog 143 #[.slice (some ⟨g, 0, none⟩) len cap, .int .i64 f, .int .i64 n] w fun e w' => e = .returned (.slice (some ⟨g, cutO f n, none⟩) n n) ∧ w = w' := by
  by_cases h : n = 0
  · subst h
    exact cutBytes_none g len cap f w hf hc
  · unfold cutO
    rw [if_neg h]
    exact cutBytes_calls g len cap f n w hf hc (by omega)
theorem BRow.cut {w : World} {g m f n : Nat} {l : List Nat} (h : BRow w g m l) (hl : ∀ b ∈ l, b < 256) (hn : f + n ≤ l.length) :
    (convert 121 9 (.slice (some ⟨g, cutO f n, none⟩) n n)).run Try.prog w = .ok (.string (ofN ((l.drop f).take n))) w := by
  have := run_convert_bytes_back (P := Try.prog) w 121 9 5 ⟨g, cutO f n, none⟩ n (((l.drop f).take n).map UInt8.ofNat) Try.underlying121 Try.underlying5 Try.underlying9 (fun j hj => by
    have hj' : j < n := by simp at hj; omega
    have hadd : (⟨g, cutO f n, none⟩ : Addr).add j = ⟨g, cutO f n + j, none⟩ := by unfold Addr.add; split <;> simp_all
    have hcu : cutO f n = f := if_neg (by omega)
    rw [hadd, hcu, h.cell (f + j) (by omega), List.getD_eq_getElem?_getD, List.getElem?_eq_getElem (by omega), List.getElem_map, List.getElem_take, List.getElem_drop, Option.getD_some]
    rw [UInt8.toNat_ofNat', Nat.mod_eq_of_lt (hl _ (List.getElem_mem _))])
  rw [List.length_map, List.length_take, List.length_drop, Nat.min_eq_left (by omega)] at this
  exact this
theorem BRow.kept {w w' : World} {g m : Nat} {l : List Nat} (h : BRow w g m l) (hb : Below w.heap.size w w') : BRow w' g m l := by
  have hl := h.lt
  obtain ⟨C, h1, h2⟩ := h
  exact ⟨C, by rw [hb.block g hl]; exact h1, h2⟩
end Go.Proofs.Ytpgmocogffolaaa
