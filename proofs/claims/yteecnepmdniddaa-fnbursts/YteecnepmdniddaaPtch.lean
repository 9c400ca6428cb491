/-
  A text with some bytes in the place of others, and its sum: the program's function and its model's, call by call. No condition but a bound on the texts' lengths.
-/
import Derived.Test.YteecnepmdniddaaBrst
namespace Go.Proofs.Yteecnepmdniddaa
open Go.RowKit

theorem seg_step {α : Type} (l : List α) (k : Nat) (v : α) (rest : List α) (hk : k + (rest.length + 1) ≤ l.length) :
    (l.set k v).take (k + 1) ++ rest ++ (l.set k v).drop (k + 1 + rest.length) = l.take k ++ (v :: rest) ++ l.drop (k + (rest.length + 1)) := by
  have h1 : (l.set k v).take (k + 1) = l.take k ++ [v] := by
    rw [List.take_succ_eq_append_getElem (by rw [List.length_set]; omega), List.getElem_set_self, List.take_set_of_le (Nat.le_refl _)]
  have h2 : (l.set k v).drop (k + 1 + rest.length) = l.drop (k + (rest.length + 1)) := by
    rw [List.drop_set_of_lt (by omega)]
    congr 1
    omega
  rw [h1, h2]
  simp
theorem BRow.grownBy_set {w : World} (g i : Nat) (v : Value) : w.grownBy (w.setCell ⟨g, i, none⟩ v) (some g) :=
  ⟨rfl, rfl, rfl, by simp, fun j _ hj => Below.heap_setCell _ _ _ j (fun e => hj (by rw [e]))⟩
theorem grown_trans {w w' w'' : World} {row : Option Nat} (h : w.grownBy w' row) (k : w'.grownBy w'' row) : w.grownBy w'' row :=
  ⟨k.os.trans h.os, k.tape.trans h.tape, k.output.trans h.output, Nat.le_trans h.size k.size, fun j hj hne => (k.block j (Nat.lt_of_lt_of_le hj h.size) hne).trans (h.block j hj hne)⟩
/-- Bytes stored one behind the other into a row of bytes. -/
theorem store_bytes (g o m : Nat) : ∀ (vs : List Nat) (i : Nat) (l : List Nat) (w : World), BRow w g m l → o + i + vs.length ≤ l.length →
    ∃ w', (storeCells ⟨g, o, none⟩ (vs.map fun b : Nat => Value.int .u8 (b : Int)) i).run Try.prog w = .ok () w' ∧ BRow w' g m (l.take (o + i) ++ vs ++ l.drop (o + i + vs.length)) ∧ w.grownBy w' (some g)
  | [], i, l, w, h, _ => ⟨w, rfl, by simpa using h, World.grownBy.refl _ _⟩
  | v :: rest, i, l, w, h, hl => by
    have hi : o + i < l.length := by simp at hl; omega
    have hadd : (⟨g, o, none⟩ : Addr).add i = ⟨g, o + i, none⟩ := by unfold Addr.add; split <;> simp_all
    have hst : (store ((⟨g, o, none⟩ : Addr).add i) (Value.int .u8 (v : Int))).run Try.prog w = .ok () (w.setCell ⟨g, o + i, none⟩ (.int .u8 (v : Int))) := by
      rw [hadd, run_store Try.prog w _ _ _ rfl, h.cell (o + i) hi]
      simp [h.frozen (o + i) hi]
    obtain ⟨w', e1, e2, e3⟩ := store_bytes g o m rest (i + 1) (l.set (o + i) v) (w.setCell ⟨g, o + i, none⟩ (.int .u8 (v : Int))) (h.set (o + i) v) (by rw [List.length_set]; simp at hl; omega)
    refine ⟨w', ?_, ?_, grown_trans (BRow.grownBy_set g (o + i) _) e3⟩
    · simp only [List.map_cons, storeCells, Sem.run_bind, hst, Result.andThen_ok, e1]
    · have e := seg_step l (o + i) v rest (by simp at hl; omega)
      rw [show o + (i + 1) = o + i + 1 by omega, e] at e2
      simpa using e2
/-- 'copy(dst, t)', t a text that fits, dst in a row of bytes from place o on. -/
theorem copy_text {w : World} {g m o dLen dCap : Nat} {l : List Nat} (t : ByteArray) (h : BRow w g m l) (hle : t.size ≤ dLen) (hf : o + t.size ≤ l.length) :
    ∃ w', (Builtin.copy_ #[22, 9] 3 #[.slice (some ⟨g, o, none⟩) dLen dCap, .string t]).run Try.prog w = .ok (goInt t.size) w' ∧ BRow w' g m (l.take o ++ bs t ++ l.drop (o + t.size)) ∧ w.grownBy w' (some g) := by
  obtain ⟨w', e1, e2, e3⟩ := store_bytes g o m (bs t) 0 l w h (by rw [bs_length]; omega)
  refine ⟨w', ?_, by rw [bs_length] at e2; simpa using e2, e3⟩
  have hmin : Nat.min t.size dLen = t.size := Nat.min_eq_left hle
  have htk : List.take t.size (List.map (fun b : UInt8 => Value.int IntKind.u8 (b.toNat : Int)) t.data.toList) = (bs t).map (fun b : Nat => Value.int .u8 (b : Int)) := by
    rw [List.take_of_length_le (by rw [List.length_map, Array.length_toList]; exact Nat.le_refl _)]
    unfold bs
    rw [List.map_map]
    rfl
  obtain ⟨i0, hi, hz0, hz1, hz2⟩ := info_parts infoByte
  simp [Builtin.copy_, run_underlying (P := Try.prog) Try.underlying22, Builtin.lenOf, Builtin.firstCells, sizeOf, typeInfo, hi, hmin]
  rw [htk, e1]
  simp [Result.andThen]

/-- Bytes in the place of others. -/
def pat (l m : List Nat) (p : Nat) : List Nat := l.take p ++ m ++ l.drop (p + m.length)
theorem pat_length (l m : List Nat) (p : Nat) (h : p + m.length ≤ l.length) : (pat l m p).length = l.length := by
  unfold pat
  rw [List.length_append, List.length_append, List.length_take, List.length_drop]
  omega
theorem pat_small {l m : List Nat} (hl : ∀ b ∈ l, b < 256) (hm : ∀ b ∈ m, b < 256) (p : Nat) : ∀ b ∈ pat l m p, b < 256 := by
  intro b hb
  unfold pat at hb
  rw [List.mem_append, List.mem_append] at hb
  rcases hb with (hb | hb) | hb
  · exact hl b (List.mem_of_mem_take hb)
  · exact hm b hb
  · exact hl b (List.mem_of_mem_drop hb)
/-- A text with another in the place of as many bytes from p on, its sum, and whether that can be. -/
def patchR (s : ByteArray) (p : Int) (t : ByteArray) : ByteArray × Int × Bool :=
  if (0 ≤ p ∧ p ≤ (s.size : Int) - (t.size : Int)) ∧ s.size ≤ 400 then (ofN (pat (bs s) (bs t) p.toNat), ((Crc.on 0 (pat (bs s) (bs t) p.toNat) : Nat) : Int), true) else (⟨#[]⟩, 0, false)

theorem onR_pat {l : List Nat} (hl : ∀ b ∈ l, b < 256) (h : l.length ≤ 400) : onR 0 (ofN l) = (((Crc.on 0 l : Nat) : Int), true) := by
  unfold onR
  rw [if_pos ⟨by decide, by rw [ofN_size]; exact h⟩, bs_ofN hl]
  rfl
theorem pat_none (l : List Nat) (p : Nat) : pat l [] p = l := by simp [pat]
theorem ofN_map (L : List UInt8) : ofN (L.map UInt8.toNat) = ⟨L.toArray⟩ := by
  unfold ofN
  have e : (L.map UInt8.toNat).map UInt8.ofNat = L := by
    rw [List.map_map]
    conv => rhs; rw [← List.map_id L]
    refine List.map_congr_left fun b _ => ?_
    show UInt8.ofNat b.toNat = b
    simp
  rw [e]
theorem put_text (s t : ByteArray) (P : Nat) : s.extract 0 P ++ t ++ s.extract (P + t.size) s.size = ofN (pat (bs s) (bs t) P) := by
  obtain ⟨⟨ls⟩⟩ := s
  obtain ⟨⟨lt⟩⟩ := t
  have e1 : bs ⟨⟨ls⟩⟩ = ls.map UInt8.toNat := rfl
  have e2 : bs ⟨⟨lt⟩⟩ = lt.map UInt8.toNat := rfl
  have n1 : (ByteArray.mk ⟨ls⟩).size = ls.length := rfl
  have n2 : (ByteArray.mk ⟨lt⟩).size = lt.length := rfl
  rw [e1, e2, n1, n2]
  unfold pat
  rw [List.length_map, ← List.map_take, ← List.map_drop, ← List.map_append, ← List.map_append, ofN_map]
  have x1 : (ByteArray.mk ⟨ls⟩).extract 0 P = ByteArray.mk (ls.take P).toArray := by
    have := ByteArray.extract_mk ls 0 P
    simpa using this
  have x2 : (ByteArray.mk ⟨ls⟩).extract (P + lt.length) ls.length = ByteArray.mk (ls.drop (P + lt.length)).toArray := by
    have := ByteArray.extract_mk ls (P + lt.length) ls.length
    rw [List.take_of_length_le (by rw [List.length_drop]; exact Nat.le_refl _)] at this
    exact this
  have x3 : ByteArray.mk ⟨lt⟩ = ByteArray.mk lt.toArray := rfl
  rw [x1, x2, x3, ByteArray.mk_append_mk, ByteArray.mk_append_mk]
theorem ret_patch {a b : ByteArray} {c d : Int} (h : a = b) (h' : c = d) : Ending.returned (.tuple #[.string a, .int .i64 c, .bool true]) = .returned (.tuple #[.string b, .int .i64 d, .bool true]) := by rw [h, h']
theorem grown_row {w w' w'' : World} {g : Nat} (h : Below w.heap.size w w') (k : w'.grownBy w'' (some g)) (hg : w.heap.size ≤ g) : Below w.heap.size w w'' :=
  h.grown k h.size (fun j hj => by cases hj; exact hg)

set_option maxRecDepth 100000 in
set_option maxHeartbeats 1600000 in
theorem patchSum_calls (s : ByteArray) (p : Int) (t : ByteArray) (w : World) (hs : s.size ≤ maxLen) (ht : t.size ≤ maxLen) :
    Calls Try.prog 28 #[.string s, .int .i64 p, .string t] w fun e w' => e = .returned (.tuple #[.string (patchR s p t).1, .int .i64 (patchR s p t).2.1, .bool (patchR s p t).2.2]) ∧ Below w.heap.size w w' := by
  unfold maxLen at hs ht
  by_cases hp0 : 0 ≤ p
  case neg =>
    have e : patchR s p t = (⟨#[]⟩, 0, false) := if_neg (fun h => hp0 h.1.1)
    rw [e]
    go_enter Try.func28, Try.ntmps28
    go_wp2
    go_ret3
    exact ⟨rfl, Below.refl _ _⟩
  by_cases hp : p ≤ (s.size : Int) - (t.size : Int)
  case neg =>
    have e : patchR s p t = (⟨#[]⟩, 0, false) := if_neg (fun h => hp h.1.2)
    rw [e]
    go_enter Try.func28, Try.ntmps28
    go_wp2
    go_ret3
    exact ⟨rfl, Below.refl _ _⟩
  by_cases hl : s.size ≤ 400
  case neg =>
    have e : patchR s p t = (⟨#[]⟩, 0, false) := if_neg (fun h => hl h.2)
    rw [e]
    go_enter Try.func28, Try.ntmps28
    go_wp2
    go_ret3
    exact ⟨rfl, Below.refl _ _⟩
  have e : patchR s p t = (ofN (pat (bs s) (bs t) p.toNat), ((Crc.on 0 (pat (bs s) (bs t) p.toNat) : Nat) : Int), true) := if_pos ⟨⟨hp0, hp⟩, hl⟩
  rw [e]
  clear e
  obtain ⟨P, rfl⟩ := Int.eq_ofNat_of_zero_le hp0
  simp only [Int.toNat_natCast]
  have hP : P + t.size ≤ s.size := by omega
  have hcv := conv_bytes s
  have hsm : ∀ b ∈ pat (bs s) (bs t) P, b < 256 := pat_small (bs_lt s) (bs_lt t) P
  have hpl : (pat (bs s) (bs t) P).length = s.size := by rw [pat_length _ _ _ (by rw [bs_length, bs_length]; exact hP), bs_length]
  have key : ∃ w1, (bytesC s w = P → (Builtin.copy_ #[22, 9] 3 #[.slice (some ⟨w.heap.size, 0, none⟩) (s.size - P) 0, .string t]).run Try.prog (bytesW s w) = .ok (goInt t.size) w1) ∧
      (¬ bytesC s w = P → (Builtin.copy_ #[22, 9] 3 #[.slice (some ⟨w.heap.size, P, none⟩) (s.size - P) (bytesC s w - P), .string t]).run Try.prog (bytesW s w) = .ok (goInt t.size) w1) ∧
      BRow w1 w.heap.size (bytesC s w) (pat (bs s) (bs t) P) ∧ (bytesW s w).grownBy w1 (some w.heap.size) := by
    by_cases hcp : bytesC s w = P
    · have hge := bytesC_ge s w
      have ht0 : t.size = 0 := by omega
      have hb0 : bs t = [] := List.eq_nil_of_length_eq_zero (by rw [bs_length]; exact ht0)
      obtain ⟨w1, e1, e2, e3⟩ := copy_text (o := 0) (dLen := s.size - P) (dCap := 0) t (bytesW_row s w) (by omega) (by omega)
      refine ⟨w1, fun _ => e1, fun h => absurd hcp h, ?_, e3⟩
      rw [hb0, pat_none]
      rw [hb0, ht0] at e2
      simpa using e2
    · obtain ⟨w1, e1, e2, e3⟩ := copy_text (o := P) (dLen := s.size - P) (dCap := bytesC s w - P) t (bytesW_row s w) (by omega) (by rw [bs_length]; omega)
      refine ⟨w1, fun h => absurd h hcp, fun _ => e1, ?_, e3⟩
      unfold pat
      rw [bs_length]
      exact e2
  obtain ⟨w1, k1, k2, hrow, hgr⟩ := key
  have hcr := conv_row hrow hsm hpl
  have B1 := hide (grown_row (bytesW_below s w) hgr (Nat.le_refl _))
  have HO := hide (onR_pat hsm (by omega))
  have hsz : (ofN (pat (bs s) (bs t) P)).size ≤ maxLen := by rw [ofN_size, hpl]; unfold maxLen; omega
  have SZ := hide hsz
  clear hsz hrow hgr hsm hpl
  generalize ofN (pat (bs s) (bs t) P) = T at hcr HO SZ ⊢
  generalize ((Crc.on 0 (pat (bs s) (bs t) P) : Nat) : Int) = S at HO ⊢
  by_cases hcp : bytesC s w = P
  · have hk := k1 hcp
    rw [hcp] at hcr
    clear k1 k2
    go_enter Try.func28, Try.ntmps28
    go_wp2_with fail
    refine (sumOf_calls T _ SZ.out).mono ?_
    rintro e w2 ⟨rfl, b⟩
    rw [HO.out]
    have B2 := hide (B1.out.trans (b.mono B1.out.size))
    clear b
    go_wp2
    go_ret3
    exact ⟨rfl, B2.out⟩
  · have hk := k2 hcp
    clear k1 k2
    go_enter Try.func28, Try.ntmps28
    go_wp2_with fail
    refine (sumOf_calls T _ SZ.out).mono ?_
    rintro e w2 ⟨rfl, b⟩
    rw [HO.out]
    have B2 := hide (B1.out.trans (b.mono B1.out.size))
    clear b
    go_wp2
    go_ret3
    exact ⟨rfl, B2.out⟩

set_option maxRecDepth 100000 in
set_option maxHeartbeats 1600000 in
theorem sPatchSum_calls (s : ByteArray) (p : Int) (t : ByteArray) (w : World) (hs : s.size ≤ maxLen) (ht : t.size ≤ maxLen) :
    Calls Try.prog 29 #[.string s, .int .i64 p, .string t] w fun e w' => e = .returned (.tuple #[.string (patchR s p t).1, .int .i64 (patchR s p t).2.1, .bool (patchR s p t).2.2]) ∧ Below w.heap.size w w' := by
  unfold maxLen at hs ht
  by_cases hl : s.size ≤ 400
  case neg =>
    have e : patchR s p t = (⟨#[]⟩, 0, false) := if_neg (fun h => hl h.2)
    rw [e]
    go_enter Try.func29, Try.ntmps29
    go_wp2
    go_ret3
    exact ⟨rfl, Below.refl _ _⟩
  by_cases hp0 : 0 ≤ p
  case neg =>
    have e : patchR s p t = (⟨#[]⟩, 0, false) := if_neg (fun h => hp0 h.1.1)
    rw [e]
    go_enter Try.func29, Try.ntmps29
    go_wp2
    go_ret3
    exact ⟨rfl, Below.refl _ _⟩
  by_cases hp1 : p ≤ (s.size : Int)
  case neg =>
    have e : patchR s p t = (⟨#[]⟩, 0, false) := if_neg (fun h => hp1 (by omega))
    rw [e]
    go_enter Try.func29, Try.ntmps29
    go_wp2
    go_ret3
    exact ⟨rfl, Below.refl _ _⟩
  by_cases hp : (t.size : Int) ≤ (s.size : Int) - p
  case neg =>
    have e : patchR s p t = (⟨#[]⟩, 0, false) := if_neg (fun h => hp (by omega))
    rw [e]
    go_enter Try.func29, Try.ntmps29
    go_wp2
    go_ret3
    exact ⟨rfl, Below.refl _ _⟩
  have e : patchR s p t = (ofN (pat (bs s) (bs t) p.toNat), ((Crc.on 0 (pat (bs s) (bs t) p.toNat) : Nat) : Int), true) := if_pos ⟨⟨hp0, by omega⟩, hl⟩
  rw [e]
  clear e
  obtain ⟨P, rfl⟩ := Int.eq_ofNat_of_zero_le hp0
  simp only [Int.toNat_natCast]
  have hP : P + t.size ≤ s.size := by omega
  have i4 : IntKind.i64.wrap ((P : Int) + (t.size : Int)) = (P : Int) + (t.size : Int) := by simp [IntKind.wrap, IntKind.bits, IntKind.signed]; omega
  have i5 : ((P : Int) + (t.size : Int)).toNat = P + t.size := by omega
  have hsm : ∀ b ∈ pat (bs s) (bs t) P, b < 256 := pat_small (bs_lt s) (bs_lt t) P
  have hpl : (pat (bs s) (bs t) P).length = s.size := by rw [pat_length _ _ _ (by rw [bs_length, bs_length]; exact hP), bs_length]
  have HS := hide hsm
  have HL := hide hpl
  clear hsm hpl
  go_enter Try.func29, Try.ntmps29
  go_wp2
  go_quiet (fail)
  go_wp2_with fail
  rw [put_text s t P]
  refine (l5On_calls 0 (ofN (pat (bs s) (bs t) P)) _ (by decide) (by rw [ofN_size, HL.out]; omega)).mono ?_
  rintro e w2 ⟨rfl, rfl⟩
  rw [bs_ofN HS.out]
  go_wp2
  go_ret3
  exact ⟨rfl, below_drewN (Below.refl _ _) _⟩
end Go.Proofs.Yteecnepmdniddaa
