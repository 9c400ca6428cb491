/-
  A frame's bytes, the model's function; the law that holds the program's FrameBytes against it: call by call. No condition but a bound on the body's length. What is read of a sector's bytes: the program's functions, call by call. Each contract says what it asks. A frame read from a sector's bytes: the program's function, call by call. The sector has its length. A frame read: the program's ReadFrame and CheckFrame, call by call. No condition but a bound on the text's length.
-/
import Derived.Test.YtbgadbokejaomaaHealthOfB9
import Derived.Deep.RegionHeld3
namespace Go.Proofs.Ytbgadbokejaomaa
open Go.RowKit

end Go.Proofs.Ytbgadbokejaomaa

namespace Go.Proofs.Ytbgadbokejaomaa
open Go.RowKit

theorem toList_inj {s t : ByteArray} (h : s.toList = t.toList) : s = t := by
  rw [ByteArray.toList_eq, ByteArray.toList_eq] at h
  obtain ⟨⟨a⟩⟩ := s
  obtain ⟨⟨b⟩⟩ := t
  simp at h
  rw [h]
theorem bs_take (s : ByteArray) (k : Nat) : bs (s.extract 0 k) = (bs s).take k := by
  obtain ⟨⟨l⟩⟩ := s
  have e := ByteArray.extract_mk l 0 k
  have e1 : (ByteArray.mk ⟨l⟩).extract 0 k = ByteArray.mk (l.take k).toArray := by simpa using e
  rw [e1]
  show ((l.take k).toArray.toList.map UInt8.toNat) = (l.map UInt8.toNat).take k
  simp [List.map_take]
theorem bs_drop (s : ByteArray) (k : Nat) : bs (s.extract k s.size) = (bs s).drop k := by
  obtain ⟨⟨l⟩⟩ := s
  have e1 : (ByteArray.mk ⟨l⟩).extract k (ByteArray.mk ⟨l⟩).size = ByteArray.mk (l.drop k).toArray := by
    have := ByteArray.extract_mk l k l.length
    rw [List.take_of_length_le (by rw [List.length_drop]; exact Nat.le_refl _)] at this
    exact this
  rw [e1]
  show ((l.drop k).toArray.toList.map UInt8.toNat) = (l.map UInt8.toNat).drop k
  simp [List.map_drop]
theorem bs_mid (s : ByteArray) (i j : Nat) : bs (s.extract i j) = ((bs s).drop i).take (j - i) := by
  obtain ⟨⟨l⟩⟩ := s
  have e1 : (ByteArray.mk ⟨l⟩).extract i j = ByteArray.mk ((l.drop i).take (j - i)).toArray := ByteArray.extract_mk l i j
  rw [e1]
  show (((l.drop i).take (j - i)).toArray.toList.map UInt8.toNat) = ((l.map UInt8.toNat).drop i).take (j - i)
  simp [List.map_take, List.map_drop]

set_option maxRecDepth 100000 in
set_option maxHeartbeats 800000 in
theorem highFirst_calls (g o len cap x y : Nat) (w : World) (h0 : w.cell? ⟨g, o, none⟩ = some (.int .u8 (x : Int))) (h1 : w.cell? ⟨g, o + 1, none⟩ = some (.int .u8 (y : Int))) (hx : x < 256) (hy : y < 256) (hl : 2 ≤ len) :
    Calls Try.prog 64 #[.slice (some ⟨g, o, none⟩) len cap] w fun e w' => e = .returned (.int .i64 ((x * 256 + y : Nat) : Int)) ∧ ∃ m, w' = w.drewN m := by
  have t1 : (0 : Int) < (len : Int) := by omega
  have t2 : (1 : Int) < (len : Int) := by omega
  go_enter Try.func64, Try.ntmps64
  go_wp2
  go_quiet (fail)
  go_wp2
  go_ret
  exact ⟨ret_int (by omega), _, rfl⟩

set_option maxRecDepth 100000 in
set_option maxHeartbeats 800000 in
theorem cutBytes_calls (g len cap f n : Nat) (w : World) (hf : f + n ≤ cap) (hc : f + n ≤ 1073741824) (hn : 0 < n) :
    Calls Try.prog 65 #[.slice (some ⟨g, 0, none⟩) len cap, .int .i64 f, .int .i64 n] w fun e w' => e = .returned (.slice (some ⟨g, f, none⟩) n n) ∧ w = w' := by
  have t1 : (f : Int) + (n : Int) ≤ (cap : Int) := by omega
  have t3 : ((f : Int) + (n : Int)).toNat = f + n := by omega
  have t4 : ¬ f + n = f := by omega
  have t5 : f + n - f = n := by omega
  go_enter Try.func65, Try.ntmps65
  go_wp2
  go_ret
  exact ⟨rfl, rfl⟩
set_option maxRecDepth 100000 in
set_option maxHeartbeats 800000 in
theorem cutBytes_none (g len cap f : Nat) (w : World) (hf : f ≤ cap) (hc : f ≤ 1073741824) :
    Calls Try.prog 65 #[.slice (some ⟨g, 0, none⟩) len cap, .int .i64 f, .int .i64 0] w fun e w' => e = .returned (.slice (some ⟨g, 0, none⟩) 0 0) ∧ w = w' := by
  have t1 : (f : Int) ≤ (cap : Int) := by omega
  go_enter Try.func65, Try.ntmps65
  go_wp2
  go_ret
  exact ⟨rfl, rfl⟩
/-- Where a piece of n bytes from f on lies. -/
def cutO (f n : Nat) : Nat := if n = 0 then 0 else f
theorem cutBytes_any (g len cap f n : Nat) (w : World) (hf : f + n ≤ cap) (hc : f + n ≤ 1073741824) :
    Calls Try.prog 65 #[.slice (some ⟨g, 0, none⟩) len cap, .int .i64 f, .int .i64 n] w fun e w' => e = .returned (.slice (some ⟨g, cutO f n, none⟩) n n) ∧ w = w' := by
  by_cases h : n = 0
  · subst h
    exact cutBytes_none g len cap f w hf hc
  · unfold cutO
    rw [if_neg h]
    exact cutBytes_calls g len cap f n w hf hc (by omega)
theorem BRow.cut {w : World} {g m f n : Nat} {l : List Nat} (h : BRow w g m l) (hl : ∀ b ∈ l, b < 256) (hn : f + n ≤ l.length) :
    (convert 83 9 (.slice (some ⟨g, cutO f n, none⟩) n n)).run Try.prog w = .ok (.string (ofN ((l.drop f).take n))) w := by
  have := run_convert_bytes_back (P := Try.prog) w 83 9 5 ⟨g, cutO f n, none⟩ n (((l.drop f).take n).map UInt8.ofNat) Try.underlying83 Try.underlying5 Try.underlying9 (fun j hj => by
    have hj' : j < n := by simp at hj; omega
    have hadd : (⟨g, cutO f n, none⟩ : Addr).add j = ⟨g, cutO f n + j, none⟩ := by unfold Addr.add; split <;> simp_all
    have hcu : cutO f n = f := if_neg (by omega)
    rw [hadd, hcu, h.cell (f + j) (by omega), List.getD_eq_getElem?_getD, List.getElem?_eq_getElem (by omega), List.getElem_map, List.getElem_take, List.getElem_drop, Option.getD_some]
    rw [UInt8.toNat_ofNat', Nat.mod_eq_of_lt (hl _ (List.getElem_mem _))])
  rw [List.length_map, List.length_take, List.length_drop, Nat.min_eq_left (by omega)] at this
  exact this
theorem BRow.kept {w w' : World} {g m : Nat} {l : List Nat} (h : BRow w g m l) (hb : Below w.heap.size w w') : BRow w' g m l := by
  have hl := h.lt
  obtain ⟨C, h1, h2⟩ := h
  exact ⟨C, by rw [hb.block g hl]; exact h1, h2⟩
end Go.Proofs.Ytbgadbokejaomaa

namespace Go.Proofs.Ytbgadbokejaomaa
open Go.RowKit

/-- A frame that is read, whatever its sum. -/
def rwR (s : ByteArray) : Fr :=
  if longOf (bs s) ≤ 16 ∧ goodF (kindOf (bs s)) (atOf (bs s)) (epochOf (bs s)) (longOf (bs s)) ∧ frB (kindOf (bs s)) (atOf (bs s)) (epochOf (bs s)) (bodyOf (bs s)) = bs s then
    ⟨kindOf (bs s), atOf (bs s), epochOf (bs s), ofN (bodyOf (bs s)), 0, true⟩
  else frNo 3

theorem store4 {w : World} {p : Nat} {a b c d : Value} {T : TypeId} (h : w.heap[p]? = some (.cells #[a, b, c, d] T (0, 0))) (v0 v1 v2 v3 : Value) :
    ((((w.setCell ⟨p, 0, none⟩ v0).setCell ⟨p, 1, none⟩ v1).setCell ⟨p, 2, none⟩ v2).setCell ⟨p, 3, none⟩ v3).heap[p]? = some (.cells #[v0, v1, v2, v3] T (0, 0)) := by
  have h0 := heap_setCell_same w p 0 _ _ v0 h
  have h1 := heap_setCell_same _ p 1 _ _ v1 h0
  have h2 := heap_setCell_same _ p 2 _ _ v2 h1
  have h3 := heap_setCell_same _ p 3 _ _ v3 h2
  simpa using h3
theorem below4 {w w' : World} {B p : Nat} (h : Below B w w') (hp : B ≤ p) (v0 v1 v2 v3 : Value) :
    Below B w ((((w'.setCell ⟨p, 0, none⟩ v0).setCell ⟨p, 1, none⟩ v1).setCell ⟨p, 2, none⟩ v2).setCell ⟨p, 3, none⟩ v3) :=
  (((h.setCell hp v0).setCell hp v1).setCell hp v2).setCell hp v3

set_option maxRecDepth 100000 in
set_option maxHeartbeats 1600000 in
theorem frameWith_calls (s : ByteArray) (w : World) (hs : s.size = 28) :
    Calls Try.prog 62 #[.string s] w fun e w' => e = .returned (.tuple #[.agg #[.int .i64 (rwR s).K, .int .i64 (rwR s).A, .int .i64 (rwR s).E, .string (rwR s).B], .bool (rwR s).ok]) ∧ Below w.heap.size w w' := by
  have B0 := hide (below_box w (.cells #[.int .i64 0, .int .i64 0, .int .i64 0, .string ⟨#[]⟩] 62))
  have hcv := conv_bytes s (w.alloc (.cells #[.int .i64 0, .int .i64 0, .int .i64 0, .string ⟨#[]⟩] 62))
  have hr := bytesW_row s (w.alloc (.cells #[.int .i64 0, .int .i64 0, .int .i64 0, .string ⟨#[]⟩] 62))
  have hb1 := bytesW_below s (w.alloc (.cells #[.int .i64 0, .int .i64 0, .int .i64 0, .string ⟨#[]⟩] 62))
  have hc28 := bytesC_ge s (w.alloc (.cells #[.int .i64 0, .int .i64 0, .int .i64 0, .string ⟨#[]⟩] 62))
  generalize bytesC s (w.alloc (.cells #[.int .i64 0, .int .i64 0, .int .i64 0, .string ⟨#[]⟩] 62)) = c at hcv hr hc28
  generalize bytesW s (w.alloc (.cells #[.int .i64 0, .int .i64 0, .int .i64 0, .string ⟨#[]⟩] 62)) = W at hcv hr hb1
  rw [hs] at hcv hc28
  have hlen : (bs s).length = 28 := by rw [bs_length]; exact hs
  have hhp : W.heap[w.heap.size]? = some (.cells #[.int .i64 0, .int .i64 0, .int .i64 0, .string ⟨#[]⟩] 62 (0, 0)) := (hb1.block w.heap.size (by simp)).trans (heap_alloc_new w _)
  have hsz : (w.alloc (.cells #[.int .i64 0, .int .i64 0, .int .i64 0, .string ⟨#[]⟩] 62)).heap.size = w.heap.size + 1 := by simp
  rw [hsz] at hcv hr
  have S1 := hide (B0.out.trans (hb1.mono (by simp)))
  have RR := hide hr
  have HL := hide hlen
  have HP := hide hhp
  have p0 := cell_of_row W w.heap.size 0 _ _ _ hhp
  have p1 := cell_of_row W w.heap.size 1 _ _ _ hhp
  have p2 := cell_of_row W w.heap.size 2 _ _ _ hhp
  have p3 := cell_of_row W w.heap.size 3 _ _ _ hhp
  simp only [List.getElem?_toArray, List.getElem?_cons_zero, List.getElem?_cons_succ] at p0 p1 p2 p3
  have q0 : W.frozen? ⟨w.heap.size, 0, none⟩ = false := frozen_of_row W w.heap.size 0 _ _ hhp
  have q1 : W.frozen? ⟨w.heap.size, 1, none⟩ = false := frozen_of_row W w.heap.size 1 _ _ hhp
  have q2 : W.frozen? ⟨w.heap.size, 2, none⟩ = false := frozen_of_row W w.heap.size 2 _ _ hhp
  have q3 : W.frozen? ⟨w.heap.size, 3, none⟩ = false := frozen_of_row W w.heap.size 3 _ _ hhp
  have n5 := hr.cell 5 (by omega)
  have hN : longOf (bs s) < 256 := getD_lt (bs_lt s) 5
  have e5 : (bs s).getD 5 0 = longOf (bs s) := rfl
  rw [e5] at n5
  clear e5 hr hb1 hlen hhp hsz hs
  by_cases h16 : longOf (bs s) ≤ 16
  case neg =>
    have er : rwR s = frNo 3 := if_neg (fun h => h16 h.1)
    rw [er]
    clear er
    generalize longOf (bs s) = N at n5 hN h16
    unfold frNo
    simp only []
    go_enter Try.func62, Try.ntmps62
    go_wp2
    (try simp only [Exit.inBlock, Exit.then])
    exact bodyPost_ret (res_frame2 rfl _ _ w.heap.size 0 0 0 ⟨#[]⟩ (0, 0) rfl (store4 HP.out _ _ _ _)) rfl ⟨rfl, below4 S1.out (Nat.le_refl _) _ _ _ _⟩
  have n0 := RR.out.cell 0 (by have := HL.out; omega)
  have hz0 : kindOf (bs s) < 256 := getD_lt (bs_lt s) 0
  have hz1 : (bs s).getD 1 0 < 256 := getD_lt (bs_lt s) 1
  have hz2 : (bs s).getD 2 0 < 256 := getD_lt (bs_lt s) 2
  have hz3 : (bs s).getD 3 0 < 256 := getD_lt (bs_lt s) 3
  have hz4 : (bs s).getD 4 0 < 256 := getD_lt (bs_lt s) 4
  have hA : atOf (bs s) < 65536 := by unfold atOf; omega
  have hE : epochOf (bs s) < 65536 := by unfold epochOf; omega
  have hbl : (bodyOf (bs s)).length = longOf (bs s) := by
    unfold bodyOf
    rw [List.length_take, List.length_drop, HL.out]
    omega
  have hbsm : ∀ x ∈ bodyOf (bs s), x < 256 := fun x hx => bs_lt s x (List.mem_of_mem_drop (List.mem_of_mem_take hx))
  have hBs : (ofN (bodyOf (bs s))).size = longOf (bs s) := by rw [ofN_size]; exact hbl
  have C68a : Hid (∀ w', Below W.heap.size W w' → Calls Try.prog 64 #[.slice (some ⟨w.heap.size + 1, 1, none⟩) 27 (c - 1)] w' fun e w'' => e = .returned (.int .i64 ((atOf (bs s) : Nat) : Int)) ∧ ∃ m, w'' = w'.drewN m) := by
    show ∀ w', _
    intro w' hb
    have r := RR.out.kept hb
    exact highFirst_calls _ 1 _ _ _ _ w' (r.cell 1 (by have := HL.out; omega)) (r.cell 2 (by have := HL.out; omega)) hz1 hz2 (by omega)
  have C68b : Hid (∀ w', Below W.heap.size W w' → Calls Try.prog 64 #[.slice (some ⟨w.heap.size + 1, 3, none⟩) 25 (c - 3)] w' fun e w'' => e = .returned (.int .i64 ((epochOf (bs s) : Nat) : Int)) ∧ ∃ m, w'' = w'.drewN m) := by
    show ∀ w', _
    intro w' hb
    have r := RR.out.kept hb
    exact highFirst_calls _ 3 _ _ _ _ w' (r.cell 3 (by have := HL.out; omega)) (r.cell 4 (by have := HL.out; omega)) hz3 hz4 (by omega)
  have C45 : Hid (∀ w', Calls Try.prog 65 #[.slice (some ⟨w.heap.size + 1, 0, none⟩) 28 c, .int .i64 6, .int .i64 (longOf (bs s) : Nat)] w' fun e w'' => e = .returned (.slice (some ⟨w.heap.size + 1, cutO 6 (longOf (bs s)), none⟩) (longOf (bs s)) (longOf (bs s))) ∧ w' = w'') :=
    fun w' => cutBytes_any (w.heap.size + 1) 28 c 6 (longOf (bs s)) w' (by omega) (by omega)
  have F : Hid (∀ w', Below W.heap.size W w' → w'.cell? ⟨w.heap.size + 1, 0, none⟩ = some (.int .u8 (kindOf (bs s) : Nat)) ∧ (convert 83 9 (.slice (some ⟨w.heap.size + 1, cutO 6 (longOf (bs s)), none⟩) (longOf (bs s)) (longOf (bs s)))).run Try.prog w' = .ok (.string (ofN (bodyOf (bs s)))) w') := by
    show ∀ w', _
    intro w' hb
    have r := RR.out.kept hb
    exact ⟨r.cell 0 (by have := HL.out; omega), r.cut (bs_lt s) (by have := HL.out; omega)⟩
  have CASES : Hid ((frR (kindOf (bs s)) (atOf (bs s)) (epochOf (bs s)) (ofN (bodyOf (bs s))) = (⟨#[]⟩, false) ∧ rwR s = frNo 3) ∨
      ((frR (kindOf (bs s)) (atOf (bs s)) (epochOf (bs s)) (ofN (bodyOf (bs s)))).2 = true ∧ ¬ (frR (kindOf (bs s)) (atOf (bs s)) (epochOf (bs s)) (ofN (bodyOf (bs s)))).1 = s ∧ rwR s = frNo 3) ∨
      (frR (kindOf (bs s)) (atOf (bs s)) (epochOf (bs s)) (ofN (bodyOf (bs s))) = (s, true) ∧ rwR s = ⟨kindOf (bs s), atOf (bs s), epochOf (bs s), ofN (bodyOf (bs s)), 0, true⟩)) := by
    show _ ∨ _
    by_cases hg : goodF (kindOf (bs s)) (atOf (bs s)) (epochOf (bs s)) (longOf (bs s))
    · have e1 : frR (kindOf (bs s)) (atOf (bs s)) (epochOf (bs s)) (ofN (bodyOf (bs s))) = (ofN (frB (kindOf (bs s)) (atOf (bs s)) (epochOf (bs s)) (bodyOf (bs s))), true) := by
        unfold frR
        rw [hBs, if_pos hg, bs_ofN hbsm]
        rfl
      by_cases he : frB (kindOf (bs s)) (atOf (bs s)) (epochOf (bs s)) (bodyOf (bs s)) = bs s
      · right; right
        rw [e1, he, ofN_bs]
        exact ⟨rfl, if_pos ⟨h16, hg, he⟩⟩
      · right; left
        rw [e1]
        refine ⟨rfl, fun h => he ?_, if_neg (fun h => he h.2.2)⟩
        have h' : ofN (frB (kindOf (bs s)) (atOf (bs s)) (epochOf (bs s)) (bodyOf (bs s))) = s := h
        have h2 := congrArg bs h'
        rw [bs_ofN (frB_small hz0 hA hE (by omega) hbsm)] at h2
        exact h2
    · left
      refine ⟨?_, if_neg (fun h => hg h.2.1)⟩
      unfold frR
      rw [hBs, if_neg hg]
  have hbm : (ofN (bodyOf (bs s))).size ≤ maxLen := by rw [hBs]; unfold maxLen; omega
  have HBM := hide hbm
  clear hbm hBs hbsm hbl hz1 hz2 hz3 hz4
  have e0 : (bs s).getD 0 0 = kindOf (bs s) := rfl
  rw [e0] at n0
  clear e0
  generalize ofN (bodyOf (bs s)) = Bd at F CASES HBM
  generalize kindOf (bs s) = z0 at n0 hz0 F CASES
  generalize atOf (bs s) = zA at hA C68a CASES
  generalize epochOf (bs s) = zE at hE C68b CASES
  generalize longOf (bs s) = N at n5 hN h16 C45 F
  have u1 : ¬ c = 1 := by omega
  have u3 : ¬ c = 3 := by omega
  have u1' : (1 : Int) ≤ (c : Int) := by omega
  have u3' : (3 : Int) ≤ (c : Int) := by omega
  have hal : ∀ (n : Nat) (o : Obj), (W.drewN n).alloc o = (W.alloc o).drewN n := fun _ _ => rfl
  have hse : ∀ (X : World) (n : Nat) (p : Addr) (v : Value), (X.drewN n).setCell p v = (X.setCell p v).drewN n := fun _ _ _ _ => rfl
  have hwz : IntKind.i64.wrap (z0 : Int) = (z0 : Int) := by rw [IntKind.wrap_i64]; omega
  have hWs : w.heap.size < W.heap.size := by have := RR.out.lt; omega
  have FX : Hid (∀ (n : Nat) (w3 : World), Below ((W.alloc (.cells #[.int .i64 z0, .int .i64 zA, .int .i64 zE, .string Bd] 62)).drewN n).heap.size ((W.alloc (.cells #[.int .i64 z0, .int .i64 zA, .int .i64 zE, .string Bd] 62)).drewN n) w3 →
      Below w.heap.size w w3 ∧ w3.heap[w.heap.size]? = some (.cells #[.int .i64 0, .int .i64 0, .int .i64 0, .string ⟨#[]⟩] 62 (0, 0)) ∧ w3.heap[W.heap.size]? = some (.cells #[.int .i64 z0, .int .i64 zA, .int .i64 zE, .string Bd] 62 (0, 0))) := by
    show ∀ (n : Nat) (w3 : World), _
    intro n w3 b3
    have b1 : Below W.heap.size W w3 := (below_drewN ((Below.refl _ _).alloc (Nat.le_refl _) _) n).trans (b3.mono (by simp))
    refine ⟨S1.out.trans (b1.mono (by omega)), (b1.block w.heap.size hWs).trans HP.out, ?_⟩
    rw [b3.block W.heap.size (by simp)]
    exact heap_alloc_new W _
  have mk1 : True := trivial
  have mk2 : True := trivial
  go_enter Try.func62, Try.ntmps62
  go_wp2
  go_region_held3 (fun w' => w'.cell? ⟨w.heap.size + 1, 0, none⟩ = some (.int .u8 (z0 : Nat)) ∧ (convert 83 9 (.slice (some ⟨w.heap.size + 1, cutO 6 N, none⟩) N N)).run Try.prog w' = .ok (.string Bd) w')
    ((refine F.out _ ?_; repeat (first | exact Below.refl _ _ | refine Below.drew ?_ | refine below_drewN ?_ _ | refine Below.alloc ?_ (by simp) _ | refine Below.setCell ?_ (by simp) _)))
    ((first
      | (clear mk1; go_at_call 64; refine (C68a.out _ ?_).mono ?_; (repeat (first | exact Below.refl _ _ | refine Below.drew ?_ | refine below_drewN ?_ _ | refine Below.alloc ?_ (by simp) _)); rintro e' w' ⟨rfl, m, rfl⟩)
      | (clear mk2; go_at_call 64; refine (C68b.out _ ?_).mono ?_; (repeat (first | exact Below.refl _ _ | refine Below.drew ?_ | refine below_drewN ?_ _ | refine Below.alloc ?_ (by simp) _)); rintro e' w' ⟨rfl, m2, rfl⟩)
      | (go_at_call 65; refine (C45.out _).mono ?_; rintro e' w' ⟨rfl, rfl⟩)))
  all_goals
    go_wp2_with fail
    refine (frameBytes_calls z0 zA zE Bd _ HBM.out).mono ?_
    rintro e' w3 ⟨rfl, b3⟩
    obtain ⟨s3, h3, f3⟩ := FX.out _ _ b3
    have S3 := hide s3
    have H3 := hide h3
    clear b3 s3 p0 p1 p2 p3 q0 q1 q2 q3
    have p0 := cell_of_row w3 w.heap.size 0 _ _ _ h3
    have p1 := cell_of_row w3 w.heap.size 1 _ _ _ h3
    have p2 := cell_of_row w3 w.heap.size 2 _ _ _ h3
    have p3 := cell_of_row w3 w.heap.size 3 _ _ _ h3
    have c0 := cell_of_row w3 W.heap.size 0 _ _ _ f3
    have c1 := cell_of_row w3 W.heap.size 1 _ _ _ f3
    have c2 := cell_of_row w3 W.heap.size 2 _ _ _ f3
    have c3 := cell_of_row w3 W.heap.size 3 _ _ _ f3
    simp only [List.getElem?_toArray, List.getElem?_cons_zero, List.getElem?_cons_succ] at p0 p1 p2 p3 c0 c1 c2 c3
    have q0 : w3.frozen? ⟨w.heap.size, 0, none⟩ = false := frozen_of_row w3 w.heap.size 0 _ _ h3
    have q1 : w3.frozen? ⟨w.heap.size, 1, none⟩ = false := frozen_of_row w3 w.heap.size 1 _ _ h3
    have q2 : w3.frozen? ⟨w.heap.size, 2, none⟩ = false := frozen_of_row w3 w.heap.size 2 _ _ h3
    have q3 : w3.frozen? ⟨w.heap.size, 3, none⟩ = false := frozen_of_row w3 w.heap.size 3 _ _ h3
    clear h3 f3
    rcases CASES.out with ⟨e1, er⟩ | ⟨e2, e3, er⟩ | ⟨e1, er⟩
    · rw [e1]
      have ER := hide er
      clear e1 er
      go_wp2
      (try simp only [Exit.inBlock, Exit.then])
      exact bodyPost_ret (res_frame2 rfl _ _ w.heap.size 0 0 0 ⟨#[]⟩ (0, 0) rfl (store4 H3.out _ _ _ _)) rfl ⟨by rw [ER.out]; rfl, below4 S3.out (Nat.le_refl _) _ _ _ _⟩
    · rw [e2]
      have ER := hide er
      generalize (frR z0 zA zE Bd).1 = T at e3 ⊢
      have hsl : ¬ T.toList = s.toList := fun h => e3 (toList_inj h)
      have hslb : (T.toList == s.toList) = false := by simpa using hsl
      clear e2 e3 er
      go_wp2
      (try simp only [Exit.inBlock, Exit.then])
      exact bodyPost_ret (res_frame2 rfl _ _ w.heap.size 0 0 0 ⟨#[]⟩ (0, 0) rfl (store4 H3.out _ _ _ _)) rfl ⟨by rw [ER.out]; rfl, below4 S3.out (Nat.le_refl _) _ _ _ _⟩
    · rw [e1]
      have ER := hide er
      clear e1 er
      go_wp2
      (try simp only [Exit.inBlock, Exit.then])
      exact bodyPost_ret (res_frame2 rfl _ _ w.heap.size z0 zA zE Bd (0, 0) rfl (store4 H3.out _ _ _ _)) rfl ⟨by rw [ER.out]; rfl, below4 S3.out (Nat.le_refl _) _ _ _ _⟩
end Go.Proofs.Ytbgadbokejaomaa

namespace Go.Proofs.Ytbgadbokejaomaa
open Go.RowKit
set_option linter.unusedVariables false

theorem box_at {w w1 : World} {cs : Array Value} {T : TypeId} (h : Below (w.alloc (.cells cs T)).heap.size (w.alloc (.cells cs T)) w1) : w1.heap[w.heap.size]? = some (.cells cs T (0, 0)) :=
  (h.block w.heap.size (by simp)).trans (heap_alloc_new w _)
/-- The cells of a frame's block. -/
theorem cells4 {w : World} {p : Nat} {a b c d : Value} {T : TypeId} (h : w.heap[p]? = some (.cells #[a, b, c, d] T (0, 0))) :
    (w.cell? ⟨p, 0, none⟩ = some a ∧ w.cell? ⟨p, 1, none⟩ = some b ∧ w.cell? ⟨p, 2, none⟩ = some c ∧ w.cell? ⟨p, 3, none⟩ = some d) ∧
    w.frozen? ⟨p, 0, none⟩ = false ∧ w.frozen? ⟨p, 1, none⟩ = false ∧ w.frozen? ⟨p, 2, none⟩ = false ∧ w.frozen? ⟨p, 3, none⟩ = false := by
  refine ⟨⟨?_, ?_, ?_, ?_⟩, frozen_of_row w p 0 _ _ h, frozen_of_row w p 1 _ _ h, frozen_of_row w p 2 _ _ h, frozen_of_row w p 3 _ _ h⟩ <;>
  rw [cell_of_row w p _ _ _ _ h] <;> rfl
theorem store4_alloc {w : World} {p : Nat} {a b c d : Value} {T : TypeId} (h : w.heap[p]? = some (.cells #[a, b, c, d] T (0, 0))) (v0 v1 v2 v3 : Value) (o : Obj) :
    (((((w.setCell ⟨p, 0, none⟩ v0).setCell ⟨p, 1, none⟩ v1).setCell ⟨p, 2, none⟩ v2).setCell ⟨p, 3, none⟩ v3).alloc o).heap[p]? = some (.cells #[v0, v1, v2, v3] T (0, 0)) := by
  have h4 := store4 h v0 v1 v2 v3
  rw [Below.heap_alloc _ _ _ (Array.getElem?_eq_some_iff.1 h4).1]
  exact h4
theorem below4_alloc {w w' : World} {B p : Nat} (h : Below B w w') (hB : B ≤ w.heap.size) (hp : B ≤ p) (v0 v1 v2 v3 : Value) (o : Obj) :
    Below B w (((((w'.setCell ⟨p, 0, none⟩ v0).setCell ⟨p, 1, none⟩ v1).setCell ⟨p, 2, none⟩ v2).setCell ⟨p, 3, none⟩ v3).alloc o) := by
  have h4 := below4 h hp v0 v1 v2 v3
  exact h4.alloc (Nat.le_trans hB h4.size) o
theorem rw_cases (s : ByteArray) : (rwR s).ok = true ∧ (rwR s).code = 0 ∨ rwR s = frNo 3 := by
  unfold rwR
  split
  · exact .inl ⟨rfl, rfl⟩
  · exact .inr rfl

set_option maxRecDepth 100000 in
set_option maxHeartbeats 1600000 in
theorem readFrame_calls (s : ByteArray) (w : World) (hsz : s.size ≤ maxLen) :
    Calls Try.prog 59 #[.string s] w fun e w' => e = .returned (.tuple #[.agg #[.int .i64 (rdR s).K, .int .i64 (rdR s).A, .int .i64 (rdR s).E, .string (rdR s).B], .int .i64 (rdR s).code, .bool (rdR s).ok]) ∧ Below w.heap.size w w' := by
  unfold maxLen at hsz
  have B0 := hide (below_box w (.cells #[.int .i64 0, .int .i64 0, .int .i64 0, .string ⟨#[]⟩] 62))
  by_cases h28 : s.size = 28
  case neg =>
    have er : rdR s = frNo 1 := if_neg h28
    have hne : ¬ (s.size : Int) = 28 := by omega
    have hneb : ((s.size : Int) == 28) = false := by simp; omega
    rw [er]
    clear er h28
    go_enter Try.func59, Try.ntmps59
    go_wp2
    (try simp only [Exit.inBlock, Exit.then])
    exact bodyPost_ret (res_frame3 rfl _ _ w.heap.size 0 0 0 ⟨#[]⟩ (0, 0) rfl (heap_alloc_new w _)) rfl ⟨rfl, below_box w _⟩
  have H28 := hide h28
  have h28i : (s.size : Int) = 28 := by omega
  have hT : bs (s.extract 0 24) = (bs s).take 24 := bs_take s 24
  have hD : bs (s.extract 24 28) = (bs s).drop 24 := by rw [← h28]; exact bs_drop s 24
  have hts : (s.extract 0 24).size ≤ 400 := by rw [← bs_length, hT, List.length_take, bs_length]; omega
  have C54 : Hid (∀ w', Calls Try.prog 61 #[.string (s.extract 0 24)] w' fun e w'' => e = .returned (.string (ofN (low4 (Crc.on 0 ((bs s).take 24))))) ∧ Below w'.heap.size w' w'') := by
    show ∀ w', _
    intro w'
    have := sumBytes_calls (s.extract 0 24) w' hts
    rw [hT] at this
    exact this
  have CASES : Hid ((s.extract 24 28 = ofN (low4 (Crc.on 0 ((bs s).take 24))) ∧ rdR s = rwR s) ∨ (¬ s.extract 24 28 = ofN (low4 (Crc.on 0 ((bs s).take 24))) ∧ rdR s = frNo 2)) := by
    show _ ∨ _
    by_cases he : (bs s).drop 24 = low4 (Crc.on 0 ((bs s).take 24))
    · left
      refine ⟨?_, ?_⟩
      · apply bs_inj
        rw [hD, bs_ofN (low4_small _)]
        exact he
      · unfold rdR
        rw [if_pos h28, if_pos he]
        rfl
    · right
      refine ⟨fun h => he ?_, ?_⟩
      · rw [← hD, h, bs_ofN (low4_small _)]
      · unfold rdR
        rw [if_pos h28, if_neg he]
  generalize ofN (low4 (Crc.on 0 ((bs s).take 24))) = Y at C54 CASES
  clear hT hts hD
  have FX : Hid (∀ w1 : World, Below (w.alloc (.cells #[.int .i64 0, .int .i64 0, .int .i64 0, .string ⟨#[]⟩] 62)).drew.heap.size (w.alloc (.cells #[.int .i64 0, .int .i64 0, .int .i64 0, .string ⟨#[]⟩] 62)).drew w1 →
      Below w.heap.size w w1 ∧ w.heap.size < w1.heap.size ∧ w1.heap[w.heap.size]? = some (.cells #[.int .i64 0, .int .i64 0, .int .i64 0, .string ⟨#[]⟩] 62 (0, 0))) := by
    show ∀ w1 : World, _
    intro w1 b1
    have b2 : Below (w.alloc (.cells #[.int .i64 0, .int .i64 0, .int .i64 0, .string ⟨#[]⟩] 62)).heap.size (w.alloc (.cells #[.int .i64 0, .int .i64 0, .int .i64 0, .string ⟨#[]⟩] 62)) w1 := (Below.refl _ _).drew.trans b1
    exact ⟨B0.out.trans (b2.mono (by simp)), by have := b2.size; simp at this; omega, box_at b2⟩
  rcases CASES.out with ⟨he, er⟩ | ⟨he, er⟩
  case inr =>
    have hsl : ¬ (s.extract 24 28).toList = Y.toList := fun h => he (toList_inj h)
    have hslb : ((s.extract 24 28).toList == Y.toList) = false := by simpa using hsl
    have ER := hide er
    clear he er CASES
    go_enter Try.func59, Try.ntmps59
    go_wp2
    go_region_held3 (fun _ => True) (trivial) ((go_at_call 61; refine (C54.out _).mono ?_; rintro e' w1 ⟨rfl, b1⟩))
    obtain ⟨s1, l1, h1⟩ := FX.out _ b1
    have S1 := hide s1
    have H1 := hide h1
    obtain ⟨⟨p0, p1, p2, p3⟩, q0, q1, q2, q3⟩ := cells4 h1
    clear s1 h1 b1
    go_wp2
    (try simp only [Exit.inBlock, Exit.then])
    exact bodyPost_ret (res_frame3 rfl _ _ w.heap.size 0 0 0 ⟨#[]⟩ (0, 0) rfl (store4 H1.out _ _ _ _)) rfl ⟨by rw [ER.out]; rfl, below4 S1.out (Nat.le_refl _) _ _ _ _⟩
  have ER := hide er
  rw [← he] at C54
  clear he er CASES
  go_enter Try.func59, Try.ntmps59
  go_wp2
  go_region_held3 (fun _ => True) (trivial) ((go_at_call 61; refine (C54.out _).mono ?_; rintro e' w1 ⟨rfl, b1⟩))
  obtain ⟨s1, l1, h1⟩ := FX.out _ b1
  have S1 := hide s1
  have H1 := hide h1
  clear s1 h1 b1
  go_wp2_with fail
  refine (frameWith_calls s _ H28.out).mono ?_
  rintro e' w2 ⟨rfl, b2⟩
  have S2 := hide (S1.out.trans (b2.mono S1.out.size))
  have h2 : w2.heap[w.heap.size]? = some (.cells #[.int .i64 0, .int .i64 0, .int .i64 0, .string ⟨#[]⟩] 62 (0, 0)) := (b2.block w.heap.size l1).trans H1.out
  have l2 : w.heap.size < w2.heap.size := Nat.lt_of_lt_of_le l1 b2.size
  clear b2
  have RC := hide (rw_cases s)
  generalize rwR s = R at ER RC ⊢
  obtain ⟨K, A, E, B, code, ok⟩ := R
  simp only []
  have H2 := hide h2
  obtain ⟨⟨p0, p1, p2, p3⟩, q0, q1, q2, q3⟩ := cells4 h2
  clear h2
  have hne : ¬ w2.heap.size = w.heap.size := by omega
  have hne' : ¬ w.heap.size = w2.heap.size := by omega
  rcases RC.out with ⟨h5, h6⟩ | h5
  · simp only [] at h5 h6
    subst h5
    subst h6
    go_wp2
    (try simp only [Exit.inBlock, Exit.then])
    exact bodyPost_ret (res_frame3 rfl _ _ w.heap.size K A E B (0, 0) rfl (store4_alloc H2.out _ _ _ _ _)) rfl ⟨by rw [ER.out]; rfl, below4_alloc S2.out (Nat.le_refl _) (Nat.le_refl _) _ _ _ _ _⟩
  · have h5' := h5
    unfold frNo at h5'
    simp only [Fr.mk.injEq] at h5'
    obtain ⟨rfl, rfl, rfl, rfl, rfl, rfl⟩ := h5'
    clear h5
    go_wp2
    (try simp only [Exit.inBlock, Exit.then])
    exact bodyPost_ret (res_frame3 rfl _ _ w.heap.size 0 0 0 ⟨#[]⟩ (0, 0) rfl (store4_alloc H2.out _ _ _ _ _)) rfl ⟨by rw [ER.out]; rfl, below4_alloc S2.out (Nat.le_refl _) (Nat.le_refl _) _ _ _ _ _⟩

set_option maxRecDepth 100000 in
set_option maxHeartbeats 1600000 in
theorem checkFrame_calls (s : ByteArray) (kind at_ least : Int) (w : World) (hsz : s.size ≤ maxLen) :
    Calls Try.prog 53 #[.string s, .int .i64 kind, .int .i64 at_, .int .i64 least] w fun e w' => e = .returned (.tuple #[.agg #[.int .i64 (ckR s kind at_ least).K, .int .i64 (ckR s kind at_ least).A, .int .i64 (ckR s kind at_ least).E, .string (ckR s kind at_ least).B], .int .i64 (ckR s kind at_ least).code, .bool (ckR s kind at_ least).ok]) ∧ Below w.heap.size w w' := by
  have B0 := hide (below_box w (.cells #[.int .i64 0, .int .i64 0, .int .i64 0, .string ⟨#[]⟩] 62))
  have hok : (rdR s).ok = true → (rdR s).code = 0 := by
    unfold rdR
    split <;> (try split) <;> (try split) <;> simp [frNo]
  rcases hR : rdR s with ⟨K, A, E, B, code, ok⟩
  rw [hR] at hok
  simp only [] at hok
  have HR := hide hR
  have HS := hide hsz
  clear hsz
  go_enter Try.func53, Try.ntmps53
  go_wp2_with fail
  refine (readFrame_calls s _ HS.out).mono ?_
  rintro e' w2 ⟨rfl, b2⟩
  rw [HR.out]
  simp only []
  have h2 := box_at b2
  have S2 := hide (B0.out.trans (b2.mono (by simp)))
  have l2 : w.heap.size < w2.heap.size := by have := b2.size; simp at this; omega
  clear b2
  have H2 := hide h2
  obtain ⟨⟨p0, p1, p2, p3⟩, q0, q1, q2, q3⟩ := cells4 h2
  clear h2
  have hne : ¬ w2.heap.size = w.heap.size := by omega
  have hne' : ¬ w.heap.size = w2.heap.size := by omega
  cases ok with
  | false =>
    have er : ckR s kind at_ least = frNo code := by unfold ckR; rw [hR]; rfl
    have ER := hide er
    clear er hok hR
    · go_wp2
      (try simp only [Exit.inBlock, Exit.then])
      exact bodyPost_ret (res_frame3 rfl _ _ w.heap.size 0 0 0 ⟨#[]⟩ (0, 0) rfl (store4_alloc H2.out _ _ _ _ _)) rfl ⟨by rw [ER.out]; rfl, below4_alloc S2.out (Nat.le_refl _) (Nat.le_refl _) _ _ _ _ _⟩

  | true =>
    obtain rfl := hok rfl
    clear hok
    by_cases h1 : K = kind
    case neg =>
      have er : ckR s kind at_ least = frNo 3 := by unfold ckR; rw [hR, if_pos rfl, if_neg h1]
      have ER := hide er
      have h1b : (K == kind) = false := by simpa using h1
      clear er hR
      go_wp2
      (try simp only [Exit.inBlock, Exit.then])
      exact bodyPost_ret (res_frame3 rfl _ _ w.heap.size 0 0 0 ⟨#[]⟩ (0, 0) rfl (store4_alloc H2.out _ _ _ _ _)) rfl ⟨by rw [ER.out]; rfl, below4_alloc S2.out (Nat.le_refl _) (Nat.le_refl _) _ _ _ _ _⟩

    by_cases h2 : A = at_
    case neg =>
      have er : ckR s kind at_ least = frNo 4 := by unfold ckR; rw [hR, if_pos rfl, if_pos h1, if_neg h2]
      have ER := hide er
      have h2b : (A == at_) = false := by simpa using h2
      subst h1
      clear er hR
      go_wp2
      (try simp only [Exit.inBlock, Exit.then])
      exact bodyPost_ret (res_frame3 rfl _ _ w.heap.size 0 0 0 ⟨#[]⟩ (0, 0) rfl (store4_alloc H2.out _ _ _ _ _)) rfl ⟨by rw [ER.out]; rfl, below4_alloc S2.out (Nat.le_refl _) (Nat.le_refl _) _ _ _ _ _⟩

    by_cases h3 : least ≤ E
    case neg =>
      have er : ckR s kind at_ least = frNo 5 := by unfold ckR; rw [hR, if_pos rfl, if_pos h1, if_pos h2, if_neg h3]
      have ER := hide er
      have h3' : E < least := by omega
      subst h1
      subst h2
      clear er hR
      go_wp2
      (try simp only [Exit.inBlock, Exit.then])
      exact bodyPost_ret (res_frame3 rfl _ _ w.heap.size 0 0 0 ⟨#[]⟩ (0, 0) rfl (store4_alloc H2.out _ _ _ _ _)) rfl ⟨by rw [ER.out]; rfl, below4_alloc S2.out (Nat.le_refl _) (Nat.le_refl _) _ _ _ _ _⟩

    · have er : ckR s kind at_ least = ⟨K, A, E, B, 0, true⟩ := by unfold ckR; rw [hR, if_pos rfl, if_pos h1, if_pos h2, if_pos h3]
      have ER := hide er
      have h3' : ¬ E < least := by omega
      subst h1
      subst h2
      clear er hR
      go_wp2
      (try simp only [Exit.inBlock, Exit.then])
      exact bodyPost_ret (res_frame3 rfl _ _ w.heap.size K A E B (0, 0) rfl (store4_alloc H2.out _ _ _ _ _)) rfl ⟨by rw [ER.out]; rfl, below4_alloc S2.out (Nat.le_refl _) (Nat.le_refl _) _ _ _ _ _⟩
end Go.Proofs.Ytbgadbokejaomaa
