/-
  The chunks of a text, one round each: the iterator over them. No condition but that it is a text.
-/
import Derived.Test.YthmijjcddjlebaaDedupB9
namespace Go.Proofs.Ythmijjcddjlebaa
open Go.RowKit Go.Shelf
set_option linter.unusedVariables false
attribute [local go_sem] Oper.semAt_some

set_option maxRecDepth 100000 in
theorem byteOrNought_calls (s : ByteArray) (k : Nat) (w : World) (hn : s.size ≤ 1048576) (hk : k < s.size) :
    Calls Try.prog 120 #[.string s, .int .i64 ((k : Int) - 4)] w fun e w' => e = .returned (.int .i64 (outB (bs s) k : Nat)) ∧ w = w' := by
  unfold outB
  by_cases h : k < 4
  · rw [if_pos h]
    have h' : (k : Int) - 4 < 0 := by omega
    go_enter Try.func120, Try.ntmps120
    go_wp2
    go_ret
    exact ⟨rfl, rfl⟩
  · rw [if_neg h]
    obtain ⟨j, rfl⟩ : ∃ j, k = j + 4 := ⟨k - 4, by omega⟩
    have e : ((j + 4 : Nat) : Int) - 4 = (j : Int) := by omega
    have e2 : j + 4 - 4 = j := by omega
    rw [e, e2]
    have hj : j < s.size := by omega
    have hzz := (bs_at9 s j hj).symm
    have hz2 := bs_small s j
    generalize (bs s).getD j 0 = z at hzz hz2 ⊢
    have h' : ¬ (j : Int) < 0 := by omega
    clear e e2
    go_enter Try.func120, Try.ntmps120
    go_wp2
    go_ret
    exact ⟨rfl, rfl⟩

abbrev cutBy (m f : Nat) : Bool := m == 20 || (decide (4 ≤ m) && f % 8 == 7)
set_option maxRecDepth 100000 in
set_option maxHeartbeats 400000 in
theorem isCutBy_calls (m f : Nat) (w : World) (hm : m ≤ 1048577) (hf : f < 8191) :
    Calls Try.prog 121 #[.int .i64 (m : Int), .int .i64 (f : Int)] w fun e w' => e = .returned (.bool (cutBy m f)) ∧ w = w' := by
  by_cases h4 : 4 ≤ m
  · have h4' : (4 : Int) ≤ (m : Int) := by omega
    by_cases h7 : f % 8 = 7
    · have h7' : (f : Int) % 8 = 7 := by omega
      have e : cutBy m f = true := by simp [cutBy, h4, h7]
      rw [e]
      clear e
      go_enter Try.func121, Try.ntmps121
      go_wp2
      go_ret
      exact ⟨rfl, rfl⟩
    · have h7' : ¬ (f : Int) % 8 = 7 := by omega
      have h7b : ((f : Int) % 8 == 7) = false := by simpa using h7'
      have e : cutBy m f = ((m : Int) == 20) := by
        have e1 : (f % 8 == 7) = false := by simpa using h7
        rw [Bool.eq_iff_iff]
        simp [cutBy, e1]
        omega
      rw [e]
      clear e
      go_enter Try.func121, Try.ntmps121
      go_wp2
      go_ret
      exact ⟨rfl, rfl⟩
  · have h4' : ¬ (4 : Int) ≤ (m : Int) := by omega
    have h4b : decide ((4 : Int) ≤ (m : Int)) = false := decide_eq_false h4'
    have e : cutBy m f = ((m : Int) == 20) := by
      rw [Bool.eq_iff_iff]
      simp [cutBy, h4]
      omega
    rw [e]
    clear e
    go_enter Try.func121, Try.ntmps121
    go_wp2
    go_ret
    exact ⟨rfl, rfl⟩

/-- What the iterator over a text's chunks gives. -/
def chunkArgs (s : ByteArray) : List (Array Value) := (pairsN (bs s) s.size).map fun p : Nat × Nat => #[.int .i64 (p.2 : Int), .string (s.extract p.1 p.2)]
theorem chunkArgs_length (s : ByteArray) : (chunkArgs s).length = (pairsN (bs s) s.size).length := by simp [chunkArgs]
theorem chunkArgs_at (s : ByteArray) (k : Nat) (hk : k < s.size) (h : cutAt (bs s) (lastC (bs s) k) (k + 1) = true) :
    (chunkArgs s)[(pairsN (bs s) k).length]? = some #[.int .i64 ((k + 1 : Nat) : Int), .string (s.extract (lastC (bs s) k) (k + 1))] := by
  have := pairsN_at (l := bs s) (k := k) (by rw [bs_length]; exact hk) h
  rw [bs_length] at this
  unfold chunkArgs
  rw [List.getElem?_map, this]
  rfl
theorem chunkArgs_some {s : ByteArray} {i : Nat} {x : Array Value} (h : (chunkArgs s)[i]? = some x) : ∃ p, (pairsN (bs s) s.size)[i]? = some p ∧ x = #[.int .i64 (p.2 : Int), .string (s.extract p.1 p.2)] := by
  unfold chunkArgs at h
  rw [List.getElem?_map] at h
  cases e : (pairsN (bs s) s.size)[i]? with
  | none => rw [e] at h; cases h
  | some p => rw [e] at h; exact ⟨p, rfl, (Option.some.inj h).symm⟩
theorem cutAt_end (s : ByteArray) (a : Nat) : cutAt (bs s) a s.size = true := by simp [cutAt, bs_length]
theorem cutAt_by (s : ByteArray) (a k : Nat) (h : k < s.size) : cutAt (bs s) a k = cutBy (k - a) (fg (wnd (bs s) k)) := by
  have e : (k == s.size) = false := by simp; omega
  simp [cutAt, cutBy, bs_length, e]

theorem chunksIn_calls (s : ByteArray) (w : World) :
    Calls Try.prog 63 #[.string s] w fun e w' => e = .returned (.func (.func 117) #[] #[.pointer (some ⟨w.heap.size, 0, none⟩)]) ∧ w' = w.alloc (.cells #[.string s] 9) := by
  go_enter Try.func63, Try.ntmps63
  go_wp2
  go_ret
  exact ⟨rfl, rfl⟩

theorem outB_lt (s : ByteArray) (k : Nat) : outB (bs s) k < 256 := by
  unfold outB
  split
  · omega
  · exact bs_small s _

/-- What is held between two bytes: the loop's own J at so many chunks as came, and the five boxes. -/
def Mid (s : ByteArray) (J : Nat → World → Prop) (lo B : Nat) (k : Nat) (W : World) : Prop :=
  J (pairsN (bs s) k).length W ∧ Boxed W B 133 (.func (.yield lo) #[] #[]) ∧ Boxed W (B + 1) 3 (.int .i64 (lastC (bs s) k : Nat)) ∧ Boxed W (B + 2) 3 (.int .i64 (fg (wnd (bs s) k) : Nat)) ∧ Boxed W (B + 3) 9 (.string s)

theorem Spar.midOf {s : ByteArray} {J : Nat → World → Prop} {lo B : Nat} {k : Nat} {A A' : World} (hJ : ∀ i A A', J i A → Spar B B (B + 4) A A' → J i A') {l' c0 c1 : Nat} (hs : Spar l' c0 c1 A A') (h : Mid s J lo B k A) (h1 : B + 4 ≤ l') (h2 : c1 ≤ c0) : Mid s J lo B k A' :=
  ⟨hJ _ _ _ h.1 (hs.mono (by omega) (fun j _ => by omega)), hs.boxed h.2.1 (.inl (by omega)), hs.boxed h.2.2.1 (.inl (by omega)), hs.boxed h.2.2.2.1 (.inl (by omega)), hs.boxed h.2.2.2.2 (.inl (by omega))⟩
theorem Spar.drew (lo c0 c1 : Nat) (A : World) : Spar lo c0 c1 A A.drew := .of_below (Below.refl _ A).drew
theorem Keep.drew (lo c0 c1 : Nat) (A : World) : Keep lo c0 c1 A A.drew := .of_below (Below.refl _ A).drew

theorem mid_step {s : ByteArray} {J : Nat → World → Prop} {lo B i y a : Nat} {w0 W2 W4 W5 : World} (hJ : ∀ i A A', J i A → Spar B B (B + 4) A A' → J i A') (hsz : w0.heap.size = B + 4) (hc : cutAt (bs s) (lastC (bs s) i) (i + 1) = true) (hy : fg (wnd (bs s) (i + 1)) = y)
    (k1 : Keep w0.heap.size (w0.heap.size + 2) (w0.heap.size + 2 + 0) W2 W4) (k2 : Keep B B (B + 4) W4.drew W5) (h5 : J ((pairsN (bs s) i).length + 1) W5)
    (q : Boxed W5 B 133 (.func (.yield lo) #[] #[]) ∧ Boxed W5 (B + 1) 3 (.int .i64 a) ∧ Boxed W5 (B + 2) 3 (.int .i64 y) ∧ Boxed W5 (B + 3) 9 (.string s)) :
    Keep (B + 4) (B + 4 + 2) (B + 6) W2 (W5.setCell ⟨B + 1, 0, none⟩ (.int .i64 ((i : Int) + 1))) ∧ Mid s J lo B (i + 1) (W5.setCell ⟨B + 1, 0, none⟩ (.int .i64 ((i : Int) + 1))) := by
  rw [hsz] at k1
  refine ⟨k1.trans ((Keep.drew _ _ _ _).trans ((k2.mono (by omega) (fun k _ h h' => by omega)).trans (Keep.setCell _ (.inl (by show B + 1 < _; omega))))), ?_⟩
  unfold Mid
  rw [pairsN_yes hc, lastC_yes hc, hy, List.length_append]
  refine ⟨hJ _ _ _ h5 (Spar.setCell _ (by omega) (by omega) (by omega)), boxed_other q.1 (by omega) _, ?_, boxed_other q.2.2.1 (by omega) _, boxed_other q.2.2.2 (by omega) _⟩
  rw [show ((i + 1 : Nat) : Int) = (i : Int) + 1 by omega]
  exact q.2.1.set _

set_option maxRecDepth 100000 in
set_option maxHeartbeats 2000000 in
theorem chunks1_iter (s : ByteArray) (Bs : Nat) (hn : s.size ≤ 1048576) :
    Iter Try.prog 117 #[.pointer (some ⟨Bs, 0, none⟩)] 4 (chunkArgs s) (fun W => W.cell? ⟨Bs, 0, none⟩ = some (.string s)) := by
  intro n lo J W hJ hC hY h0
  rw [chunkArgs_length]
  show CallsIn Fence.wide n Try.prog 117 #[.func (.yield lo) #[] #[], .pointer (some ⟨Bs, 0, none⟩)] W _
  have HJ := hide hJ
  have HC := hide hC
  have HY := hide hY
  have hc0 := hC 0 W h0
  clear hJ hC hY
  refine callsIn_of_wp_marks Try.func117 rfl trivial ?_ rfl
  simp only [Try.ntmps117, List.size_toArray, List.length_cons, List.length_nil, Nat.reduceAdd, Nat.reduceSub, Array.replicate_succ, Array.replicate_zero, List.push_toArray, List.append_toArray, List.nil_append, List.cons_append]
  have j1 := HJ.out 0 _ _ h0 (Spar.alloc _ _ _ W (.cells #[.func (.yield lo) #[] #[]] 133))
  have j2 := HJ.out 0 _ _ j1 (Spar.alloc _ _ _ _ (.cells #[.int .i64 0] 3))
  have j3 := HJ.out 0 _ _ j2 (Spar.alloc _ _ _ _ (.cells #[.int .i64 0] 3))
  have j4 := HJ.out 0 _ _ j3 (Spar.alloc _ _ _ _ (.cells #[.string s] 9))
  have c3 := HC.out 0 _ j3
  have J4 := hide j4
  have mix : Try.prog.follows .mixedOrders = true := by kernel_rfl
  clear j1 j2 j3 j4 h0 hc0
  gi_wp2_with fail
  refine wide_call (bytesIn_calls s _) ?_
  rintro e w1 ⟨rfl, rfl⟩
  rw [show (((W.alloc (.cells #[.func (.yield lo) #[] #[]] 133)).alloc (.cells #[.int .i64 0] 3)).alloc (.cells #[.int .i64 0] 3)).heap.size = W.heap.size + 3 by simp]
  have b0 : Hid (Boxed ((((W.alloc (.cells #[.func (.yield lo) #[] #[]] 133)).alloc (.cells #[.int .i64 0] 3)).alloc (.cells #[.int .i64 0] 3)).alloc (.cells #[.string s] 9)) W.heap.size 133 (.func (.yield lo) #[] #[])) := ((((Boxed.new W _ _).alloc _).alloc _).alloc _)
  have b1 : Hid (Boxed ((((W.alloc (.cells #[.func (.yield lo) #[] #[]] 133)).alloc (.cells #[.int .i64 0] 3)).alloc (.cells #[.int .i64 0] 3)).alloc (.cells #[.string s] 9)) (W.heap.size + 1) 3 (.int .i64 0)) := by
    have := ((Boxed.new (W.alloc (.cells #[.func (.yield lo) #[] #[]] 133)) 3 (.int .i64 0)).alloc (.cells #[.int .i64 0] 3)).alloc (.cells #[.string s] 9)
    simpa [Hid] using this
  have b2 : Hid (Boxed ((((W.alloc (.cells #[.func (.yield lo) #[] #[]] 133)).alloc (.cells #[.int .i64 0] 3)).alloc (.cells #[.int .i64 0] 3)).alloc (.cells #[.string s] 9)) (W.heap.size + 2) 3 (.int .i64 0)) := by
    have := (Boxed.new ((W.alloc (.cells #[.func (.yield lo) #[] #[]] 133)).alloc (.cells #[.int .i64 0] 3)) 3 (.int .i64 0)).alloc (.cells #[.string s] 9)
    simpa [Hid] using this
  have b3 : Hid (Boxed ((((W.alloc (.cells #[.func (.yield lo) #[] #[]] 133)).alloc (.cells #[.int .i64 0] 3)).alloc (.cells #[.int .i64 0] 3)).alloc (.cells #[.string s] 9)) (W.heap.size + 3) 9 (.string s)) := by
    have := Boxed.new (((W.alloc (.cells #[.func (.yield lo) #[] #[]] 133)).alloc (.cells #[.int .i64 0] 3)).alloc (.cells #[.int .i64 0] 3)) 9 (.string s)
    simpa [Hid] using this
  have hsz : ((((W.alloc (.cells #[.func (.yield lo) #[] #[]] 133)).alloc (.cells #[.int .i64 0] 3)).alloc (.cells #[.int .i64 0] 3)).alloc (.cells #[.string s] 9)).heap.size = W.heap.size + 4 := by simp
  clear c3
  gi_wp2
  generalize (((W.alloc (.cells #[.func (.yield lo) #[] #[]] 133)).alloc (.cells #[.int .i64 0] 3)).alloc (.cells #[.int .i64 0] 3)).alloc (.cells #[.string s] 9) = w0 at J4 b0 b1 b2 b3 hsz ⊢
  refine wp_rangeI (gf := 142) (lb := #[.pointer (some ⟨W.heap.size + 3, 0, none⟩)]) rfl (enters_of Try.func142 (by kernel_rfl) rfl) (bytes1_iter s (W.heap.size + 3) hn) ?ps
    (Mid s J lo W.heap.size) (fun i A B h hs => hs.midOf HJ.out h (by omega) (by omega)) (fun i A h => h.2.2.2.2.cell) ⟨J4.out, b0.out, b1.out, b2.out, b3.out⟩ ?round ?done
  case ps => intro x hx; obtain ⟨k, hk⟩ := List.getElem?_of_mem hx; rw [(byteArgs_some hk).2]; rfl
  case round =>
    intro n' l i x W1 hx hi _
    obtain ⟨hlt, rfl⟩ := byteArgs_some hx
    have hroll := hide (fg_roll (bs s) i (by rw [bs_length]; exact hlt))
    have hz := bs_small s i
    clear hi hx
    generalize (bs s).getD i 0 = z at hroll hz ⊢
    gi_wp2
    refine ⟨trivial, ?_⟩
    rintro W2 ⟨g0, g1, g2, g3, g4⟩ hW2
    rw [hsz] at hW2
    have ho := outB_lt s i
    have ew : IntKind.i64.wrap ((i : Int) - 4) = (i : Int) - 4 := by simp [IntKind.wrap, IntKind.bits, IntKind.signed]; omega
    have hla := lastC_le (bs s) i
    have hy := fg_lt (wnd (bs s) i)
    have hy2 := fg_lt (wnd (bs s) (i + 1))
    have hbn := hide (fun W => byteOrNought_calls s i W hn hlt)
    have hcs := HC.out _ _ g0
    have hcs2 := HC.out _ _ (HJ.out _ _ _ g0 (Spar.drew _ _ _ W2))
    have G0 := hide (And.intro g0 (And.intro g1 (And.intro g2 (And.intro g3 g4))))
    have hf := g3.cell
    have hff := g3.frozen
    clear g0 g1 g2 g3 g4
    generalize hoo : outB (bs s) i = o at ho hroll hbn
    generalize hff2 : fg (wnd (bs s) i) = f at hy hroll hf
    have HO := hide hoo
    have HF := hide hff2
    clear hoo hff2
    gi_wp2
    refine wpIn_mono (Q := fun e a W' => e = .normal ∧ a = { tmps := #[.func (.yield lo) #[] #[], .pointer (some ⟨Bs, 0, none⟩), .pointer (some ⟨W.heap.size, 0, none⟩), .pointer (some ⟨W.heap.size + 1, 0, none⟩), .pointer (some ⟨W.heap.size + 1 + 1, 0, none⟩), .int .i64 i, .int .i64 z, undef, .string s,
      .func (.func 142) #[] #[.pointer (some ⟨W.heap.size + 3, 0, none⟩)], .int .i64 i, .int .i64 z, .int .i64 f, .string s, .int .i64 i, .int .i64 ((i : Int) - 4), .int .i64 o, .int .i64 z, .int .i64 (rf f o z : Nat), undef, undef, undef, undef, undef, undef, undef, undef, undef, undef, undef, undef, undef, undef, undef, undef, undef, undef, undef, undef, undef, undef, undef], defers := [] } ∧ W' = (W2.setCell ⟨W.heap.size + 1 + 1, 0, none⟩ (.int .i64 (rf f o z : Nat))).drew) ?region ?_
    case region =>
      refine wpIn_region_rd mix (by decide) ?_
      refine wpAnyIn_take (i := 2) (v := _) rfl rfl (by kernel_rfl) (by kernel_rfl) (by kernel_rfl) (fun _ _ _ h => Exit.noConfusion h.1) ⟨Or.inl ⟨by rfl, by intro w; go_simp; try with_reducible rfl⟩, fun _ => rfl⟩ ?_
      refine wpAnyIn_take (i := 3) (v := _) rfl rfl (by kernel_rfl) (by kernel_rfl) (by kernel_rfl) (fun _ _ _ h => Exit.noConfusion h.1) ⟨Or.inl ⟨by rfl, by intro w; go_simp; try with_reducible rfl⟩, fun _ => rfl⟩ ?_
      refine wpAnyIn_take (i := 5) (v := _) rfl rfl (by kernel_rfl) (by kernel_rfl) (by kernel_rfl) (fun _ _ _ h => Exit.noConfusion h.1) ⟨Or.inl ⟨by rfl, by intro w; go_simp; try with_reducible rfl⟩, fun _ => rfl⟩ ?_
      refine wpAnyIn_ready (rs := [0, 1]) (by kernel_rfl) (by simp) ?_
      refine AllReadyIn.cons rfl (fun K hK => ?_) ?_
      · go_simp
        refine hK _ _ ?_
        clear hK K
        refine wpAnyIn_ready (rs := [1]) (by kernel_rfl) (by simp) ?_
        refine AllReadyIn.cons rfl (fun K hK => ?_) ?_
        · go_simp
          refine hK _ _ ?_
          clear hK K
          refine wpAnyIn_ready (rs := [4]) (by kernel_rfl) (by simp) ?_
          refine AllReadyIn.cons rfl (fun K hK => ?_) ?_
          · go_simp
            refine wide_call (hbn.out _) ?_
            rintro e w1 ⟨rfl, rfl⟩
            refine hK _ _ ?_
            clear hK K
            refine wpAnyIn_ready (rs := [6]) (by kernel_rfl) (by simp) ?_
            refine AllReadyIn.cons rfl (fun K hK => ?_) ?_
            · go_simp
              refine wide_call (rollFinger_calls f o z _ hy ho hz) ?_
              rintro e w1 ⟨rfl, rfl⟩
              refine hK _ _ ?_
              clear hK K
              refine wpAnyIn_ready (rs := [7]) (by kernel_rfl) (by simp) ?_
              refine AllReadyIn.cons rfl (fun K hK => ?_) ?_
              · go_simp
                refine hK _ _ ?_
                clear hK K
                refine wpAnyIn_done (by kernel_rfl) ?_ _
                exact ⟨rfl, rfl, rfl⟩
              exact AllReadyIn.nil
            exact AllReadyIn.nil
          exact AllReadyIn.nil
        exact AllReadyIn.nil
      refine AllReadyIn.cons rfl (fun K hK => ?_) ?_
      · go_simp
        refine hK _ _ ?_
        clear hK K
        refine wpAnyIn_ready (rs := [0, 4]) (by kernel_rfl) (by simp) ?_
        refine AllReadyIn.cons rfl (fun K hK => ?_) ?_
        · go_simp
          refine hK _ _ ?_
          clear hK K
          refine wpAnyIn_ready (rs := [4]) (by kernel_rfl) (by simp) ?_
          refine AllReadyIn.cons rfl (fun K hK => ?_) ?_
          · go_simp
            refine wide_call (hbn.out _) ?_
            rintro e w1 ⟨rfl, rfl⟩
            refine hK _ _ ?_
            clear hK K
            refine wpAnyIn_ready (rs := [6]) (by kernel_rfl) (by simp) ?_
            refine AllReadyIn.cons rfl (fun K hK => ?_) ?_
            · go_simp
              refine wide_call (rollFinger_calls f o z _ hy ho hz) ?_
              rintro e w1 ⟨rfl, rfl⟩
              refine hK _ _ ?_
              clear hK K
              refine wpAnyIn_ready (rs := [7]) (by kernel_rfl) (by simp) ?_
              refine AllReadyIn.cons rfl (fun K hK => ?_) ?_
              · go_simp
                refine hK _ _ ?_
                clear hK K
                refine wpAnyIn_done (by kernel_rfl) ?_ _
                exact ⟨rfl, rfl, rfl⟩
              exact AllReadyIn.nil
            exact AllReadyIn.nil
          exact AllReadyIn.nil
        refine AllReadyIn.cons rfl (fun K hK => ?_) ?_
        · go_simp
          refine wide_call (hbn.out _) ?_
          rintro e w1 ⟨rfl, rfl⟩
          refine hK _ _ ?_
          clear hK K
          refine wpAnyIn_ready (rs := [0]) (by kernel_rfl) (by simp) ?_
          refine AllReadyIn.cons rfl (fun K hK => ?_) ?_
          · go_simp
            refine hK _ _ ?_
            clear hK K
            refine wpAnyIn_ready (rs := [6]) (by kernel_rfl) (by simp) ?_
            refine AllReadyIn.cons rfl (fun K hK => ?_) ?_
            · go_simp
              refine wide_call (rollFinger_calls f o z _ hy ho hz) ?_
              rintro e w1 ⟨rfl, rfl⟩
              refine hK _ _ ?_
              clear hK K
              refine wpAnyIn_ready (rs := [7]) (by kernel_rfl) (by simp) ?_
              refine AllReadyIn.cons rfl (fun K hK => ?_) ?_
              · go_simp
                refine hK _ _ ?_
                clear hK K
                refine wpAnyIn_done (by kernel_rfl) ?_ _
                exact ⟨rfl, rfl, rfl⟩
              exact AllReadyIn.nil
            exact AllReadyIn.nil
          exact AllReadyIn.nil
        exact AllReadyIn.nil
      exact AllReadyIn.nil
    rintro e a W3 ⟨rfl, rfl, rfl⟩
    clear hbn ew hcs2
    have g0 := G0.out.1
    have g1 := G0.out.2.1
    have g2 := G0.out.2.2.1
    have g3 := G0.out.2.2.2.1
    have g4 := G0.out.2.2.2.2
    rw [← hroll.out]
    have k0 := HJ.out _ _ _ (HJ.out _ _ _ g0 (Spar.setCell (b := W.heap.size + 1 + 1) (.int .i64 (fg (wnd (bs s) (i + 1)) : Nat)) (by omega) (by omega) (by omega))) (Spar.drew _ _ _ _)
    have k1 := boxed_other g1 (B' := W.heap.size + 1 + 1) (by omega) (.int .i64 (fg (wnd (bs s) (i + 1)) : Nat))
    have k2 := boxed_other g2 (B' := W.heap.size + 1 + 1) (by omega) (.int .i64 (fg (wnd (bs s) (i + 1)) : Nat))
    have k3 := g3.set (.int .i64 (fg (wnd (bs s) (i + 1)) : Nat))
    have k4 := boxed_other g4 (B' := W.heap.size + 1 + 1) (by omega) (.int .i64 (fg (wnd (bs s) (i + 1)) : Nat))
    have kk : Keep w0.heap.size (w0.heap.size + 2) (w0.heap.size + 2 + 0) W2 (W2.setCell ⟨W.heap.size + 1 + 1, 0, none⟩ (.int .i64 (fg (wnd (bs s) (i + 1)) : Nat))).drew := (Keep.setCell _ (.inl (by show W.heap.size + 1 + 1 < _; omega))).trans (Keep.drew _ _ _ _)
    replace k1 : Boxed (W2.setCell ⟨W.heap.size + 1 + 1, 0, none⟩ (.int .i64 (fg (wnd (bs s) (i + 1)) : Nat))).drew _ _ _ := k1
    replace k2 : Boxed (W2.setCell ⟨W.heap.size + 1 + 1, 0, none⟩ (.int .i64 (fg (wnd (bs s) (i + 1)) : Nat))).drew _ _ _ := k2
    replace k3 : Boxed (W2.setCell ⟨W.heap.size + 1 + 1, 0, none⟩ (.int .i64 (fg (wnd (bs s) (i + 1)) : Nat))).drew _ _ _ := k3
    replace k4 : Boxed (W2.setCell ⟨W.heap.size + 1 + 1, 0, none⟩ (.int .i64 (fg (wnd (bs s) (i + 1)) : Nat))).drew _ _ _ := k4
    generalize (W2.setCell ⟨W.heap.size + 1 + 1, 0, none⟩ (.int .i64 (fg (wnd (bs s) (i + 1)) : Nat))).drew = W4 at k0 k1 k2 k3 k4 kk ⊢
    clear g0 g1 g2 g3 g4 G0 hf hff hcs
    have sz4 : W.heap.size + 4 ≤ W4.heap.size := Nat.le_trans (by omega) kk.size
    have ca := k2.cell
    have cf := k3.cell
    have cs4 := HC.out _ _ k0
    have K := hide (And.intro k0 (And.intro k1 (And.intro k2 (And.intro k3 k4))))
    have KK := hide kk
    clear k0 k1 k2 k3 k4 kk
    generalize hfy : fg (wnd (bs s) (i + 1)) = y at hy2 cf K
    generalize hal : lastC (bs s) i = a at hla ca K
    have HFY := hide hfy
    have HAL := hide hal
    clear hfy hal
    by_cases hend : i + 1 < s.size
    · have he : ((i : Int) + 1) - (a : Int) = ((i + 1 - a : Nat) : Int) := by omega
      have hd : Hid (cutAt (bs s) (lastC (bs s) i) (i + 1) = cutBy (i + 1 - a) y) := by show _ = _; rw [cutAt_by s _ _ hend, HAL.out, HFY.out]
      have hm : i + 1 - a ≤ 1048577 := by omega
      generalize i + 1 - a = m at he hd hm
      have hend' : (i : Int) + 1 < (s.size : Int) := by omega
      gi_wp2_with fail
      refine round_call (isCutBy_calls m y _ hm hy2) ?_
      rintro e w1 ⟨rfl, rfl⟩
      cases hc : cutBy m y
      · have hn0 : Hid (cutAt (bs s) (lastC (bs s) i) (i + 1) = false) := hd.out.trans hc
        gi_wp2
        refine ⟨by rw [hsz] at KK; exact KK.out, ?_⟩
        unfold Mid
        rw [pairsN_no hn0.out, lastC_no hn0.out, HAL.out, HFY.out]
        exact K.out
      · have hn0 : Hid (cutAt (bs s) (lastC (bs s) i) (i + 1) = true) := hd.out.trans hc
        gi_wp2
        have k5 := HJ.out _ _ _ K.out.1 (Spar.drew _ _ _ W4)
        have hat := chunkArgs_at s i hlt hn0.out
        rw [HAL.out, show ((i + 1 : Nat) : Int) = (i : Int) + 1 by omega] at hat
        obtain ⟨fn, tmps, assign, body, hy5, hR⟩ := HY.out (n' - 1) _ _ W4.drew hat k5 sz4
        clear hat
        have cy := K.out.2.1.cell
        have hb1 : (0 : Int) ≤ (i : Int) + 1 := by omega
        have hb2 : (i : Int) + 1 ≤ (s.size : Int) := by omega
        have hb3 : (a : Int) ≤ (i : Int) + 1 := by omega
        have SZ4 := hide sz4
        clear sz4
        refine wpIn_mono (Q := fun e ac W' => e = .normal ∧ (J ((pairsN (bs s) i).length + 1) W' ∧ Keep W.heap.size W.heap.size (W.heap.size + 4) W4.drew W') ∧ ac = { tmps := #[.func (.yield lo) #[] #[], .pointer (some ⟨Bs, 0, none⟩), .pointer (some ⟨W.heap.size, 0, none⟩), .pointer (some ⟨W.heap.size + 1, 0, none⟩), .pointer (some ⟨W.heap.size + 1 + 1, 0, none⟩), .int .i64 i, .int .i64 z, .int .i64 ((i : Int) + 1), .string s, .func (.func 142) #[] #[.pointer (some ⟨W.heap.size + 3, 0, none⟩)], .int .i64 i, .int .i64 z, .int .i64 f, .string s, .int .i64 i, .int .i64 ((i : Int) - 4), .int .i64 o, .int .i64 z, .int .i64 y, .int .i64 i, .int .i64 ((i : Int) + 1), .int .i64 ((i : Int) + 1), .string s, .int .i64 s.size, .bool true, .bool true, .int .i64 ((i : Int) + 1), .int .i64 a, .int .i64 m, .int .i64 y, .bool true, .bool false, .bool false, .func (.yield lo) #[] #[], .int .i64 ((i : Int) + 1), .string s, .int .i64 a, .int .i64 ((i : Int) + 1), .string (s.extract a (i + 1)), .bool true, .bool false, undef], defers := [] }) ?_ ?_
        · clear HJ HC HY KK K HFY HAL hroll HO HF hn0 k5 SZ4 J4 b0 b1 b2 b3 cf hz ho hy hy2 hW2
          refine wpIn_region_rd mix (by decide) ?_
          refine wpAnyIn_take (i := 1) (v := _) rfl rfl (by kernel_rfl) (by kernel_rfl) (by kernel_rfl) (fun _ _ _ h => Exit.noConfusion h.1) ⟨Or.inl ⟨by rfl, by intro w; go_simp; try with_reducible rfl⟩, fun _ => rfl⟩ ?_
          refine wpAnyIn_take (i := 4) (v := _) rfl rfl (by kernel_rfl) (by kernel_rfl) (by kernel_rfl) (fun _ _ _ h => Exit.noConfusion h.1) ⟨Or.inl ⟨by rfl, by intro w; go_simp; try with_reducible rfl⟩, fun _ => rfl⟩ ?_
          refine wpAnyIn_ready (rs := [0, 2, 3]) (by kernel_rfl) (by simp) ?_
          refine AllReadyIn.cons rfl (fun K hK => ?_) ?_
          · go_simp
            refine hK _ _ ?_
            clear hK K
            refine wpAnyIn_ready (rs := [2, 3]) (by kernel_rfl) (by simp) ?_
            refine AllReadyIn.cons rfl (fun K hK => ?_) ?_
            · go_simp
              refine hK _ _ ?_
              clear hK K
              refine wpAnyIn_ready (rs := [3]) (by kernel_rfl) (by simp) ?_
              refine AllReadyIn.cons rfl (fun K hK => ?_) ?_
              · go_simp
                refine hK _ _ ?_
                clear hK K
                refine wpAnyIn_take (i := 5) (v := _) rfl rfl (by kernel_rfl) (by kernel_rfl) (by kernel_rfl) (fun _ _ _ h => Exit.noConfusion h.1) ⟨Or.inl ⟨by rfl, by intro w; go_simp; try with_reducible rfl⟩, fun _ => rfl⟩ ?_
                refine wpAnyIn_ready (rs := [6]) (by kernel_rfl) (by simp) ?_
                refine AllReadyIn.cons rfl (fun K hK => ?_) ?_
                · go_simp
                  refine roundIn_pl hR ?_
                  rintro e W5 ⟨rfl, h5, k5'⟩
                  refine hK _ _ ?_
                  clear hK K
                  refine wpAnyIn_take (i := 7) (v := _) rfl rfl (by kernel_rfl) (by kernel_rfl) (by kernel_rfl) (fun _ _ _ h => Exit.noConfusion h.1) ⟨Or.inl ⟨by rfl, by intro w; go_simp; try with_reducible rfl⟩, fun _ => rfl⟩ ?_
                  refine wpAnyIn_done (by kernel_rfl) ?_ _
                  exact ⟨rfl, ⟨h5, k5'⟩, rfl⟩
                exact AllReadyIn.nil
              exact AllReadyIn.nil
            refine AllReadyIn.cons rfl (fun K hK => ?_) ?_
            · go_simp
              refine hK _ _ ?_
              clear hK K
              refine wpAnyIn_ready (rs := [2]) (by kernel_rfl) (by simp) ?_
              refine AllReadyIn.cons rfl (fun K hK => ?_) ?_
              · go_simp
                refine hK _ _ ?_
                clear hK K
                refine wpAnyIn_take (i := 5) (v := _) rfl rfl (by kernel_rfl) (by kernel_rfl) (by kernel_rfl) (fun _ _ _ h => Exit.noConfusion h.1) ⟨Or.inl ⟨by rfl, by intro w; go_simp; try with_reducible rfl⟩, fun _ => rfl⟩ ?_
                refine wpAnyIn_ready (rs := [6]) (by kernel_rfl) (by simp) ?_
                refine AllReadyIn.cons rfl (fun K hK => ?_) ?_
                · go_simp
                  refine roundIn_pl hR ?_
                  rintro e W5 ⟨rfl, h5, k5'⟩
                  refine hK _ _ ?_
                  clear hK K
                  refine wpAnyIn_take (i := 7) (v := _) rfl rfl (by kernel_rfl) (by kernel_rfl) (by kernel_rfl) (fun _ _ _ h => Exit.noConfusion h.1) ⟨Or.inl ⟨by rfl, by intro w; go_simp; try with_reducible rfl⟩, fun _ => rfl⟩ ?_
                  refine wpAnyIn_done (by kernel_rfl) ?_ _
                  exact ⟨rfl, ⟨h5, k5'⟩, rfl⟩
                exact AllReadyIn.nil
              exact AllReadyIn.nil
            exact AllReadyIn.nil
          refine AllReadyIn.cons rfl (fun K hK => ?_) ?_
          · go_simp
            refine hK _ _ ?_
            clear hK K
            refine wpAnyIn_ready (rs := [0, 3]) (by kernel_rfl) (by simp) ?_
            refine AllReadyIn.cons rfl (fun K hK => ?_) ?_
            · go_simp
              refine hK _ _ ?_
              clear hK K
              refine wpAnyIn_ready (rs := [3]) (by kernel_rfl) (by simp) ?_
              refine AllReadyIn.cons rfl (fun K hK => ?_) ?_
              · go_simp
                refine hK _ _ ?_
                clear hK K
                refine wpAnyIn_take (i := 5) (v := _) rfl rfl (by kernel_rfl) (by kernel_rfl) (by kernel_rfl) (fun _ _ _ h => Exit.noConfusion h.1) ⟨Or.inl ⟨by rfl, by intro w; go_simp; try with_reducible rfl⟩, fun _ => rfl⟩ ?_
                refine wpAnyIn_ready (rs := [6]) (by kernel_rfl) (by simp) ?_
                refine AllReadyIn.cons rfl (fun K hK => ?_) ?_
                · go_simp
                  refine roundIn_pl hR ?_
                  rintro e W5 ⟨rfl, h5, k5'⟩
                  refine hK _ _ ?_
                  clear hK K
                  refine wpAnyIn_take (i := 7) (v := _) rfl rfl (by kernel_rfl) (by kernel_rfl) (by kernel_rfl) (fun _ _ _ h => Exit.noConfusion h.1) ⟨Or.inl ⟨by rfl, by intro w; go_simp; try with_reducible rfl⟩, fun _ => rfl⟩ ?_
                  refine wpAnyIn_done (by kernel_rfl) ?_ _
                  exact ⟨rfl, ⟨h5, k5'⟩, rfl⟩
                exact AllReadyIn.nil
              exact AllReadyIn.nil
            refine AllReadyIn.cons rfl (fun K hK => ?_) ?_
            · go_simp
              refine hK _ _ ?_
              clear hK K
              refine wpAnyIn_take (i := 5) (v := _) rfl rfl (by kernel_rfl) (by kernel_rfl) (by kernel_rfl) (fun _ _ _ h => Exit.noConfusion h.1) ⟨Or.inl ⟨by rfl, by intro w; go_simp; try with_reducible rfl⟩, fun _ => rfl⟩ ?_
              refine wpAnyIn_ready (rs := [0]) (by kernel_rfl) (by simp) ?_
              refine AllReadyIn.cons rfl (fun K hK => ?_) ?_
              · go_simp
                refine hK _ _ ?_
                clear hK K
                refine wpAnyIn_ready (rs := [6]) (by kernel_rfl) (by simp) ?_
                refine AllReadyIn.cons rfl (fun K hK => ?_) ?_
                · go_simp
                  refine roundIn_pl hR ?_
                  rintro e W5 ⟨rfl, h5, k5'⟩
                  refine hK _ _ ?_
                  clear hK K
                  refine wpAnyIn_take (i := 7) (v := _) rfl rfl (by kernel_rfl) (by kernel_rfl) (by kernel_rfl) (fun _ _ _ h => Exit.noConfusion h.1) ⟨Or.inl ⟨by rfl, by intro w; go_simp; try with_reducible rfl⟩, fun _ => rfl⟩ ?_
                  refine wpAnyIn_done (by kernel_rfl) ?_ _
                  exact ⟨rfl, ⟨h5, k5'⟩, rfl⟩
                exact AllReadyIn.nil
              exact AllReadyIn.nil
            exact AllReadyIn.nil
          refine AllReadyIn.cons rfl (fun K hK => ?_) ?_
          · go_simp
            refine hK _ _ ?_
            clear hK K
            refine wpAnyIn_ready (rs := [0, 2]) (by kernel_rfl) (by simp) ?_
            refine AllReadyIn.cons rfl (fun K hK => ?_) ?_
            · go_simp
              refine hK _ _ ?_
              clear hK K
              refine wpAnyIn_ready (rs := [2]) (by kernel_rfl) (by simp) ?_
              refine AllReadyIn.cons rfl (fun K hK => ?_) ?_
              · go_simp
                refine hK _ _ ?_
                clear hK K
                refine wpAnyIn_take (i := 5) (v := _) rfl rfl (by kernel_rfl) (by kernel_rfl) (by kernel_rfl) (fun _ _ _ h => Exit.noConfusion h.1) ⟨Or.inl ⟨by rfl, by intro w; go_simp; try with_reducible rfl⟩, fun _ => rfl⟩ ?_
                refine wpAnyIn_ready (rs := [6]) (by kernel_rfl) (by simp) ?_
                refine AllReadyIn.cons rfl (fun K hK => ?_) ?_
                · go_simp
                  refine roundIn_pl hR ?_
                  rintro e W5 ⟨rfl, h5, k5'⟩
                  refine hK _ _ ?_
                  clear hK K
                  refine wpAnyIn_take (i := 7) (v := _) rfl rfl (by kernel_rfl) (by kernel_rfl) (by kernel_rfl) (fun _ _ _ h => Exit.noConfusion h.1) ⟨Or.inl ⟨by rfl, by intro w; go_simp; try with_reducible rfl⟩, fun _ => rfl⟩ ?_
                  refine wpAnyIn_done (by kernel_rfl) ?_ _
                  exact ⟨rfl, ⟨h5, k5'⟩, rfl⟩
                exact AllReadyIn.nil
              exact AllReadyIn.nil
            refine AllReadyIn.cons rfl (fun K hK => ?_) ?_
            · go_simp
              refine hK _ _ ?_
              clear hK K
              refine wpAnyIn_take (i := 5) (v := _) rfl rfl (by kernel_rfl) (by kernel_rfl) (by kernel_rfl) (fun _ _ _ h => Exit.noConfusion h.1) ⟨Or.inl ⟨by rfl, by intro w; go_simp; try with_reducible rfl⟩, fun _ => rfl⟩ ?_
              refine wpAnyIn_ready (rs := [0]) (by kernel_rfl) (by simp) ?_
              refine AllReadyIn.cons rfl (fun K hK => ?_) ?_
              · go_simp
                refine hK _ _ ?_
                clear hK K
                refine wpAnyIn_ready (rs := [6]) (by kernel_rfl) (by simp) ?_
                refine AllReadyIn.cons rfl (fun K hK => ?_) ?_
                · go_simp
                  refine roundIn_pl hR ?_
                  rintro e W5 ⟨rfl, h5, k5'⟩
                  refine hK _ _ ?_
                  clear hK K
                  refine wpAnyIn_take (i := 7) (v := _) rfl rfl (by kernel_rfl) (by kernel_rfl) (by kernel_rfl) (fun _ _ _ h => Exit.noConfusion h.1) ⟨Or.inl ⟨by rfl, by intro w; go_simp; try with_reducible rfl⟩, fun _ => rfl⟩ ?_
                  refine wpAnyIn_done (by kernel_rfl) ?_ _
                  exact ⟨rfl, ⟨h5, k5'⟩, rfl⟩
                exact AllReadyIn.nil
              exact AllReadyIn.nil
            exact AllReadyIn.nil
          exact AllReadyIn.nil
        rintro e ac W5 ⟨rfl, ⟨h5, k5'⟩, rfl⟩
        have q1 : Boxed W5 _ _ _ := k5'.boxed (show Boxed W4.drew _ _ _ from K.out.2.1) (by omega) (by omega) (by omega)
        have q2 : Boxed W5 _ _ _ := k5'.boxed (show Boxed W4.drew _ _ _ from K.out.2.2.1) (by omega) (by omega) (by omega)
        have q3 : Boxed W5 _ _ _ := k5'.boxed (show Boxed W4.drew _ _ _ from K.out.2.2.2.1) (by omega) (by omega) (by omega)
        have q4 : Boxed W5 _ _ _ := k5'.boxed (show Boxed W4.drew _ _ _ from K.out.2.2.2.2) (by omega) (by omega) (by omega)
        have r2 := q2.cell
        have r3 := q2.frozen
        have Q := hide (And.intro q1 (And.intro q2 (And.intro q3 q4)))
        have K5 := hide k5'
        clear q1 q2 q3 q4 k5' hy5 hR
        gi_wp2
        exact mid_step HJ.out hsz hn0.out HFY.out KK.out K5.out h5 Q.out
    · have hn0 : Hid (cutAt (bs s) (lastC (bs s) i) (i + 1) = true) := by
        show _ = _
        rw [show i + 1 = s.size by omega]
        exact cutAt_end s _
      have hend' : ¬ (i : Int) + 1 < (s.size : Int) := by omega
      gi_wp2
      refine ⟨trivial, ?_⟩
      gi_wp2
      have k5 := HJ.out _ _ _ K.out.1 (Spar.drew _ _ _ W4)
      have hat := chunkArgs_at s i hlt hn0.out
      rw [HAL.out, show ((i + 1 : Nat) : Int) = (i : Int) + 1 by omega] at hat
      obtain ⟨fn, tmps, assign, body, hy5, hR⟩ := HY.out (n' - 1) _ _ W4.drew hat k5 sz4
      clear hat
      have cy := K.out.2.1.cell
      have hb1 : (0 : Int) ≤ (i : Int) + 1 := by omega
      have hb2 : (i : Int) + 1 ≤ (s.size : Int) := by omega
      have hb3 : (a : Int) ≤ (i : Int) + 1 := by omega
      have SZ4 := hide sz4
      clear sz4
      refine wpIn_mono (Q := fun e ac W' => e = .normal ∧ (J ((pairsN (bs s) i).length + 1) W' ∧ Keep W.heap.size W.heap.size (W.heap.size + 4) W4.drew W') ∧ ac = { tmps := #[.func (.yield lo) #[] #[], .pointer (some ⟨Bs, 0, none⟩), .pointer (some ⟨W.heap.size, 0, none⟩), .pointer (some ⟨W.heap.size + 1, 0, none⟩), .pointer (some ⟨W.heap.size + 1 + 1, 0, none⟩), .int .i64 i, .int .i64 z, .int .i64 ((i : Int) + 1), .string s, .func (.func 142) #[] #[.pointer (some ⟨W.heap.size + 3, 0, none⟩)], .int .i64 i, .int .i64 z, .int .i64 f, .string s, .int .i64 i, .int .i64 ((i : Int) - 4), .int .i64 o, .int .i64 z, .int .i64 y, .int .i64 i, .int .i64 ((i : Int) + 1), .int .i64 ((i : Int) + 1), .string s, .int .i64 s.size, .bool false, .bool false, undef, undef, undef, undef, undef, undef, .bool false, .func (.yield lo) #[] #[], .int .i64 ((i : Int) + 1), .string s, .int .i64 a, .int .i64 ((i : Int) + 1), .string (s.extract a (i + 1)), .bool true, .bool false, undef], defers := [] }) ?_ ?_
      · clear HJ HC HY KK K HFY HAL hroll HO HF hn0 k5 SZ4 J4 b0 b1 b2 b3 cf hz ho hy hy2 hW2
        refine wpIn_region_rd mix (by decide) ?_
        refine wpAnyIn_take (i := 1) (v := _) rfl rfl (by kernel_rfl) (by kernel_rfl) (by kernel_rfl) (fun _ _ _ h => Exit.noConfusion h.1) ⟨Or.inl ⟨by rfl, by intro w; go_simp; try with_reducible rfl⟩, fun _ => rfl⟩ ?_
        refine wpAnyIn_take (i := 4) (v := _) rfl rfl (by kernel_rfl) (by kernel_rfl) (by kernel_rfl) (fun _ _ _ h => Exit.noConfusion h.1) ⟨Or.inl ⟨by rfl, by intro w; go_simp; try with_reducible rfl⟩, fun _ => rfl⟩ ?_
        refine wpAnyIn_ready (rs := [0, 2, 3]) (by kernel_rfl) (by simp) ?_
        refine AllReadyIn.cons rfl (fun K hK => ?_) ?_
        · go_simp
          refine hK _ _ ?_
          clear hK K
          refine wpAnyIn_ready (rs := [2, 3]) (by kernel_rfl) (by simp) ?_
          refine AllReadyIn.cons rfl (fun K hK => ?_) ?_
          · go_simp
            refine hK _ _ ?_
            clear hK K
            refine wpAnyIn_ready (rs := [3]) (by kernel_rfl) (by simp) ?_
            refine AllReadyIn.cons rfl (fun K hK => ?_) ?_
            · go_simp
              refine hK _ _ ?_
              clear hK K
              refine wpAnyIn_take (i := 5) (v := _) rfl rfl (by kernel_rfl) (by kernel_rfl) (by kernel_rfl) (fun _ _ _ h => Exit.noConfusion h.1) ⟨Or.inl ⟨by rfl, by intro w; go_simp; try with_reducible rfl⟩, fun _ => rfl⟩ ?_
              refine wpAnyIn_ready (rs := [6]) (by kernel_rfl) (by simp) ?_
              refine AllReadyIn.cons rfl (fun K hK => ?_) ?_
              · go_simp
                refine roundIn_pl hR ?_
                rintro e W5 ⟨rfl, h5, k5'⟩
                refine hK _ _ ?_
                clear hK K
                refine wpAnyIn_take (i := 7) (v := _) rfl rfl (by kernel_rfl) (by kernel_rfl) (by kernel_rfl) (fun _ _ _ h => Exit.noConfusion h.1) ⟨Or.inl ⟨by rfl, by intro w; go_simp; try with_reducible rfl⟩, fun _ => rfl⟩ ?_
                refine wpAnyIn_done (by kernel_rfl) ?_ _
                exact ⟨rfl, ⟨h5, k5'⟩, rfl⟩
              exact AllReadyIn.nil
            exact AllReadyIn.nil
          refine AllReadyIn.cons rfl (fun K hK => ?_) ?_
          · go_simp
            refine hK _ _ ?_
            clear hK K
            refine wpAnyIn_ready (rs := [2]) (by kernel_rfl) (by simp) ?_
            refine AllReadyIn.cons rfl (fun K hK => ?_) ?_
            · go_simp
              refine hK _ _ ?_
              clear hK K
              refine wpAnyIn_take (i := 5) (v := _) rfl rfl (by kernel_rfl) (by kernel_rfl) (by kernel_rfl) (fun _ _ _ h => Exit.noConfusion h.1) ⟨Or.inl ⟨by rfl, by intro w; go_simp; try with_reducible rfl⟩, fun _ => rfl⟩ ?_
              refine wpAnyIn_ready (rs := [6]) (by kernel_rfl) (by simp) ?_
              refine AllReadyIn.cons rfl (fun K hK => ?_) ?_
              · go_simp
                refine roundIn_pl hR ?_
                rintro e W5 ⟨rfl, h5, k5'⟩
                refine hK _ _ ?_
                clear hK K
                refine wpAnyIn_take (i := 7) (v := _) rfl rfl (by kernel_rfl) (by kernel_rfl) (by kernel_rfl) (fun _ _ _ h => Exit.noConfusion h.1) ⟨Or.inl ⟨by rfl, by intro w; go_simp; try with_reducible rfl⟩, fun _ => rfl⟩ ?_
                refine wpAnyIn_done (by kernel_rfl) ?_ _
                exact ⟨rfl, ⟨h5, k5'⟩, rfl⟩
              exact AllReadyIn.nil
            exact AllReadyIn.nil
          exact AllReadyIn.nil
        refine AllReadyIn.cons rfl (fun K hK => ?_) ?_
        · go_simp
          refine hK _ _ ?_
          clear hK K
          refine wpAnyIn_ready (rs := [0, 3]) (by kernel_rfl) (by simp) ?_
          refine AllReadyIn.cons rfl (fun K hK => ?_) ?_
          · go_simp
            refine hK _ _ ?_
            clear hK K
            refine wpAnyIn_ready (rs := [3]) (by kernel_rfl) (by simp) ?_
            refine AllReadyIn.cons rfl (fun K hK => ?_) ?_
            · go_simp
              refine hK _ _ ?_
              clear hK K
              refine wpAnyIn_take (i := 5) (v := _) rfl rfl (by kernel_rfl) (by kernel_rfl) (by kernel_rfl) (fun _ _ _ h => Exit.noConfusion h.1) ⟨Or.inl ⟨by rfl, by intro w; go_simp; try with_reducible rfl⟩, fun _ => rfl⟩ ?_
              refine wpAnyIn_ready (rs := [6]) (by kernel_rfl) (by simp) ?_
              refine AllReadyIn.cons rfl (fun K hK => ?_) ?_
              · go_simp
                refine roundIn_pl hR ?_
                rintro e W5 ⟨rfl, h5, k5'⟩
                refine hK _ _ ?_
                clear hK K
                refine wpAnyIn_take (i := 7) (v := _) rfl rfl (by kernel_rfl) (by kernel_rfl) (by kernel_rfl) (fun _ _ _ h => Exit.noConfusion h.1) ⟨Or.inl ⟨by rfl, by intro w; go_simp; try with_reducible rfl⟩, fun _ => rfl⟩ ?_
                refine wpAnyIn_done (by kernel_rfl) ?_ _
                exact ⟨rfl, ⟨h5, k5'⟩, rfl⟩
              exact AllReadyIn.nil
            exact AllReadyIn.nil
          refine AllReadyIn.cons rfl (fun K hK => ?_) ?_
          · go_simp
            refine hK _ _ ?_
            clear hK K
            refine wpAnyIn_take (i := 5) (v := _) rfl rfl (by kernel_rfl) (by kernel_rfl) (by kernel_rfl) (fun _ _ _ h => Exit.noConfusion h.1) ⟨Or.inl ⟨by rfl, by intro w; go_simp; try with_reducible rfl⟩, fun _ => rfl⟩ ?_
            refine wpAnyIn_ready (rs := [0]) (by kernel_rfl) (by simp) ?_
            refine AllReadyIn.cons rfl (fun K hK => ?_) ?_
            · go_simp
              refine hK _ _ ?_
              clear hK K
              refine wpAnyIn_ready (rs := [6]) (by kernel_rfl) (by simp) ?_
              refine AllReadyIn.cons rfl (fun K hK => ?_) ?_
              · go_simp
                refine roundIn_pl hR ?_
                rintro e W5 ⟨rfl, h5, k5'⟩
                refine hK _ _ ?_
                clear hK K
                refine wpAnyIn_take (i := 7) (v := _) rfl rfl (by kernel_rfl) (by kernel_rfl) (by kernel_rfl) (fun _ _ _ h => Exit.noConfusion h.1) ⟨Or.inl ⟨by rfl, by intro w; go_simp; try with_reducible rfl⟩, fun _ => rfl⟩ ?_
                refine wpAnyIn_done (by kernel_rfl) ?_ _
                exact ⟨rfl, ⟨h5, k5'⟩, rfl⟩
              exact AllReadyIn.nil
            exact AllReadyIn.nil
          exact AllReadyIn.nil
        refine AllReadyIn.cons rfl (fun K hK => ?_) ?_
        · go_simp
          refine hK _ _ ?_
          clear hK K
          refine wpAnyIn_ready (rs := [0, 2]) (by kernel_rfl) (by simp) ?_
          refine AllReadyIn.cons rfl (fun K hK => ?_) ?_
          · go_simp
            refine hK _ _ ?_
            clear hK K
            refine wpAnyIn_ready (rs := [2]) (by kernel_rfl) (by simp) ?_
            refine AllReadyIn.cons rfl (fun K hK => ?_) ?_
            · go_simp
              refine hK _ _ ?_
              clear hK K
              refine wpAnyIn_take (i := 5) (v := _) rfl rfl (by kernel_rfl) (by kernel_rfl) (by kernel_rfl) (fun _ _ _ h => Exit.noConfusion h.1) ⟨Or.inl ⟨by rfl, by intro w; go_simp; try with_reducible rfl⟩, fun _ => rfl⟩ ?_
              refine wpAnyIn_ready (rs := [6]) (by kernel_rfl) (by simp) ?_
              refine AllReadyIn.cons rfl (fun K hK => ?_) ?_
              · go_simp
                refine roundIn_pl hR ?_
                rintro e W5 ⟨rfl, h5, k5'⟩
                refine hK _ _ ?_
                clear hK K
                refine wpAnyIn_take (i := 7) (v := _) rfl rfl (by kernel_rfl) (by kernel_rfl) (by kernel_rfl) (fun _ _ _ h => Exit.noConfusion h.1) ⟨Or.inl ⟨by rfl, by intro w; go_simp; try with_reducible rfl⟩, fun _ => rfl⟩ ?_
                refine wpAnyIn_done (by kernel_rfl) ?_ _
                exact ⟨rfl, ⟨h5, k5'⟩, rfl⟩
              exact AllReadyIn.nil
            exact AllReadyIn.nil
          refine AllReadyIn.cons rfl (fun K hK => ?_) ?_
          · go_simp
            refine hK _ _ ?_
            clear hK K
            refine wpAnyIn_take (i := 5) (v := _) rfl rfl (by kernel_rfl) (by kernel_rfl) (by kernel_rfl) (fun _ _ _ h => Exit.noConfusion h.1) ⟨Or.inl ⟨by rfl, by intro w; go_simp; try with_reducible rfl⟩, fun _ => rfl⟩ ?_
            refine wpAnyIn_ready (rs := [0]) (by kernel_rfl) (by simp) ?_
            refine AllReadyIn.cons rfl (fun K hK => ?_) ?_
            · go_simp
              refine hK _ _ ?_
              clear hK K
              refine wpAnyIn_ready (rs := [6]) (by kernel_rfl) (by simp) ?_
              refine AllReadyIn.cons rfl (fun K hK => ?_) ?_
              · go_simp
                refine roundIn_pl hR ?_
                rintro e W5 ⟨rfl, h5, k5'⟩
                refine hK _ _ ?_
                clear hK K
                refine wpAnyIn_take (i := 7) (v := _) rfl rfl (by kernel_rfl) (by kernel_rfl) (by kernel_rfl) (fun _ _ _ h => Exit.noConfusion h.1) ⟨Or.inl ⟨by rfl, by intro w; go_simp; try with_reducible rfl⟩, fun _ => rfl⟩ ?_
                refine wpAnyIn_done (by kernel_rfl) ?_ _
                exact ⟨rfl, ⟨h5, k5'⟩, rfl⟩
              exact AllReadyIn.nil
            exact AllReadyIn.nil
          exact AllReadyIn.nil
        exact AllReadyIn.nil
      rintro e ac W5 ⟨rfl, ⟨h5, k5'⟩, rfl⟩
      have q1 : Boxed W5 _ _ _ := k5'.boxed (show Boxed W4.drew _ _ _ from K.out.2.1) (by omega) (by omega) (by omega)
      have q2 : Boxed W5 _ _ _ := k5'.boxed (show Boxed W4.drew _ _ _ from K.out.2.2.1) (by omega) (by omega) (by omega)
      have q3 : Boxed W5 _ _ _ := k5'.boxed (show Boxed W4.drew _ _ _ from K.out.2.2.2.1) (by omega) (by omega) (by omega)
      have q4 : Boxed W5 _ _ _ := k5'.boxed (show Boxed W4.drew _ _ _ from K.out.2.2.2.2) (by omega) (by omega) (by omega)
      have r2 := q2.cell
      have r3 := q2.frozen
      have Q := hide (And.intro q1 (And.intro q2 (And.intro q3 q4)))
      have K5 := hide k5'
      clear q1 q2 q3 q4 k5' hy5 hR
      gi_wp2
      exact mid_step HJ.out hsz hn0.out HFY.out KK.out K5.out h5 Q.out
  case done =>
    rintro W1 h hD _
    rw [byteArgs_length] at h
    gi_wp2
    refine ⟨by simp, .inl ⟨_, _, rfl, run_takeDeferred hD, ?_⟩⟩
    exact ⟨_, results_none rfl _ _ _, ⟨_, rfl⟩, HJ.out _ _ _ h.1 (Spar.putObj _ hD rfl (by omega))⟩

end Go.Proofs.Ythmijjcddjlebaa
