/-
  Texts whose chunks are kept once each, by the program: the whole call. It says what it asks.
-/
import Derived.Test.YthmijjcddjlebaaDedupB17
import Derived.Test.YthmijjcddjlebaaDedupB12
namespace Go.Proofs.Ythmijjcddjlebaa
open Go.RowKit Go.Shelf
set_option linter.unusedVariables false
set_option linter.unusedSimpArgs false
attribute [local go_sem] Oper.semAt_some

/-- A recipe of the call's own. -/
def OwnRc (w : World) (lo hi : Nat) (vc vu : Value) (C : List ByteArray) (U : List (List Int)) : Prop := (OwnT w lo vc C ∧ ∀ k, vc.ownBlock = some k → k < hi) ∧ Mat w lo hi vu U
theorem ownRc_nil (w : World) (lo hi : Nat) : OwnRc w lo hi (.slice none 0 0) (.slice none 0 0) [] [] :=
  ⟨⟨World.ownsRow_nil _ _ _ _, fun k hk => by simp [Value.ownBlock] at hk⟩, [], rfl, World.ownsRow_nil _ _ _ _, fun i hi => by simp at hi, fun k hk => by simp [Value.ownBlock] at hk, fun i k hi => by simp at hi, fun i j hi => by simp at hi⟩


theorem mk_rows9 (n : Nat) (h : n ≤ 1048576) (W : World) : (Instr.makeSlice 25 (.int .i64 (n : Int)) (.int .i64 (n : Int))).run Try.prog W = .ok (.slice (some ⟨W.heap.size, 0, none⟩) n n) (W.alloc (.cells (List.replicate n (Value.slice none 0 0)).toArray 41)) := by
  obtain ⟨i0, hi0, hz0, hz1, hz2⟩ := info_parts infoRows9
  have h2 := run_make (P := Try.prog) W 25 41 i0 (.slice none 0 0) Try.underlying25 hi0 hz0 .i64 .i64 (n : Int) (n : Int) (by omega) (by omega) (by rw [hz2]; omega) (by omega)
  have e : madeCells (Value.slice none 0 0).cells ((n : Int).toNat * i0.size) = (List.replicate n (Value.slice none 0 0)).toArray := by
    rw [hz1, Nat.mul_one, Int.toNat_natCast]
    apply Array.ext'
    have := toList_madeCells_one (Value.slice none 0 0) n
    rw [List.toList_toArray]
    exact this
  rw [e] at h2
  simpa using h2
theorem rep_getD9 {α : Type} (n i : Nat) (x : α) : (List.replicate n x).getD i x = x := by
  rw [List.getD_eq_getElem?_getD, List.getElem?_replicate]
  split <;> rfl
/-- The rows of the first k texts, and empty ones. -/
def usR (xs : List ByteArray) (k : Nat) : List (List Int) := (dedF (xs.take k)).2 ++ List.replicate (xs.length - k) []
theorem usR_len (xs : List ByteArray) (k : Nat) (h : (dedF (xs.take k)).2.length = k) (hk : k ≤ xs.length) : (usR xs k).length = xs.length := by
  unfold usR
  rw [List.length_append, h, List.length_replicate]
  omega
theorem usR_set0 (xs : List ByteArray) (k : Nat) (h : (dedF (xs.take k)).2.length = k) (hk : k < xs.length) : (usR xs k).set k [] = usR xs k := by
  unfold usR
  obtain ⟨j, hj⟩ : ∃ j, xs.length - k = j + 1 := ⟨xs.length - k - 1, by omega⟩
  rw [hj, List.replicate_succ, List.set_append_right _ _ (by omega), h, Nat.sub_self, List.set_cons_zero]
theorem usR_setN (xs : List ByteArray) (k : Nat) (h : (dedF (xs.take k)).2.length = k) (hk : k < xs.length) (s : ByteArray) (hs : dedF (xs.take (k + 1)) = stepD (dedF (xs.take k)) s) :
    (usR xs k).set k (useF (dedF (xs.take k)).1 (chunksT s)).1 = usR xs (k + 1) := by
  unfold usR
  rw [hs]
  obtain ⟨j, hj⟩ : ∃ j, xs.length - k = j + 1 := ⟨xs.length - k - 1, by omega⟩
  rw [hj, show xs.length - (k + 1) = j by omega, List.replicate_succ, List.set_append_right _ _ (by omega), h, Nat.sub_self, List.set_cons_zero]
  unfold stepD
  rw [List.append_assoc]
  rfl
theorem PIn.any {w W : World} {lo c1 m : Nat} {v : Value} {D : DataW Unit} {vs : List Value} {C : List ByteArray} {U : List (List Int)} (h : PIn w W lo c1 m v D vs C U) : PIn w W (w.heap.size + 5) 0 m v D vs C U :=
  ⟨h.res, h.book, h.useb, h.rowb, h.len, h.rows, h.apart, fun _ _ => .inr (Nat.zero_le _), fun _ _ _ _ => .inr (Nat.zero_le _), h.below, Nat.le_refl _⟩
theorem rowcell9 {W : World} {B : Nat} {t : TypeId} {vs : List Value} (h : W.heap[B]? = some (.cells vs.toArray t (0, 0))) (k : Nat) (hk : k < vs.length) : W.cell? ⟨B, k, none⟩ = some (vs.getD k (.slice none 0 0)) := by
  simp [World.cell?, h, List.getD_eq_getElem?_getD, List.getElem?_eq_getElem hk]
theorem wp_append_eq9 {P : Program} {o : Oper} {a : Act} {w w' : World} {K : Act → World → Prop} {Q : Exit → Act → World → Prop} {s x : Operand} {t : TypeId} {v y v' : Value}
    (hop : o.op = .call { callee := .builtin .append, args := #[s, x], argTypes := #[t, t] }) (hs : a.eval s = v) (hx : a.eval x = y) (hrun : (Builtin.append_ #[t, t] o.type #[v, y]).run P w = .ok v' w') (h : K (a.put o.dst v') w') : o.wp P a w K Q := by
  unfold Oper.wp
  simp [execOp, hop, resolve, invoke, builtin, hs, hx, hrun, Result.andThen, Oper.upon]
  exact h
theorem usR_full (xs : List ByteArray) : usR xs xs.length = (dedF xs).2 := by
  unfold usR
  rw [Nat.sub_self, List.take_length]
  simp
theorem pin_new (w : World) (n : Nat) : PIn w (((((w.alloc (.cells #[.slice none 0 0, .slice none 0 0] 27)).alloc (.map #[] 0)).alloc (.cells #[.slice none 0 0, .map (some (w.heap.size + 1))] 86)).alloc (.cells (Array.replicate n (.slice none 0 0)) 41)).alloc (.cells #[.slice (some ⟨w.heap.size + 3, 0, none⟩) n n] 25))
    (w.heap.size + 5) 0 0 (.slice none 0 0) (.map []) (List.replicate n (.slice none 0 0)) [] (List.replicate n []) := by
  generalize ho0 : (Obj.cells #[.slice none 0 0, .slice none 0 0] 27) = o0
  generalize ho1 : (Obj.map #[] 0) = o1
  generalize ho2 : (Obj.cells #[.slice none 0 0, .map (some (w.heap.size + 1))] 86) = o2
  generalize ho3 : (Obj.cells (Array.replicate n (.slice none 0 0)) 41) = o3
  generalize ho4 : (Obj.cells #[.slice (some ⟨w.heap.size + 3, 0, none⟩) n n] 25) = o4
  have s1 : (w.alloc o0).heap.size = w.heap.size + 1 := World.size_alloc _ _
  have s2 : ((w.alloc o0).alloc o1).heap.size = w.heap.size + 2 := by rw [World.size_alloc, s1]
  have s3 : (((w.alloc o0).alloc o1).alloc o2).heap.size = w.heap.size + 3 := by rw [World.size_alloc, s2]
  have s4 : ((((w.alloc o0).alloc o1).alloc o2).alloc o3).heap.size = w.heap.size + 4 := by rw [World.size_alloc, s3]
  have a4 : (((((w.alloc o0).alloc o1).alloc o2).alloc o3).alloc o4).heap[w.heap.size + 4]? = some o4 := by have := World.alloc_heap_new ((((w.alloc o0).alloc o1).alloc o2).alloc o3) o4; rwa [s4] at this
  have a3 : (((((w.alloc o0).alloc o1).alloc o2).alloc o3).alloc o4).heap[w.heap.size + 3]? = some o3 := by
    rw [Below.heap_alloc _ _ _ (by omega)]; have := World.alloc_heap_new (((w.alloc o0).alloc o1).alloc o2) o3; rwa [s3] at this
  have a2 : (((((w.alloc o0).alloc o1).alloc o2).alloc o3).alloc o4).heap[w.heap.size + 2]? = some o2 := by
    rw [Below.heap_alloc _ _ _ (by omega), Below.heap_alloc _ _ _ (by omega)]; have := World.alloc_heap_new ((w.alloc o0).alloc o1) o2; rwa [s2] at this
  have a1 : (((((w.alloc o0).alloc o1).alloc o2).alloc o3).alloc o4).heap[w.heap.size + 1]? = some o1 := by
    rw [Below.heap_alloc _ _ _ (by omega), Below.heap_alloc _ _ _ (by omega), Below.heap_alloc _ _ _ (by omega)]; have := World.alloc_heap_new (w.alloc o0) o1; rwa [s1] at this
  have a0 : (((((w.alloc o0).alloc o1).alloc o2).alloc o3).alloc o4).heap[w.heap.size]? = some o0 := by
    rw [Below.heap_alloc _ _ _ (by omega), Below.heap_alloc _ _ _ (by omega), Below.heap_alloc _ _ _ (by omega), Below.heap_alloc _ _ _ (by omega)]; exact World.alloc_heap_new w o0
  have bb : Below w.heap.size w (((((w.alloc o0).alloc o1).alloc o2).alloc o3).alloc o4) := (((((Below.refl _ w).alloc (Nat.le_refl _) o0).alloc (by omega) o1).alloc (by omega) o2).alloc (by omega) o3).alloc (by omega) o4
  have om := World.ownsMap_made (H := Unit) w Try.prog 9 (plainElem (H := Unit) Try.prog 3)
  generalize ((((w.alloc o0).alloc o1).alloc o2).alloc o3).alloc o4 = W at a0 a1 a2 a3 a4 bb ⊢
  subst ho0 ho1 ho2 ho3 ho4
  refine ⟨a0, ⟨a2, World.ownsRow_nil _ _ _ _, ?_, bookD_nil, fun g e => by simp [Value.ownBlock] at e⟩, ?_, ?_, by simp, fun i hi => ?_, fun i j g hi hj e => ?_, fun g e => .inr (Nat.zero_le _), fun i g _ _ => .inr (Nat.zero_le _), bb, Nat.le_refl _⟩
  · obtain ⟨es, ck, hM, rest⟩ := om
    have hM' : es = #[] ∧ ck = 0 := by
      have := World.alloc_heap_new w (.map #[] 0)
      rw [this] at hM
      simp at hM
      exact ⟨hM.1, hM.2.symm⟩
    obtain ⟨rfl, rfl⟩ := hM'
    exact ⟨_, _, a1, rest⟩
  · rw [List.length_replicate]; exact a4
  · rw [a3]; simp
  · rw [rep_getD9, rep_getD9]; exact World.ownsRow_nil _ _ _ _
  · rw [rep_getD9] at e; simp [Value.ownBlock] at e
set_option maxRecDepth 100000 in
set_option maxHeartbeats 3200000 in
theorem dedupAll_calls (v : Value) (xs : List ByteArray) (w : World) (h : RdT w v xs) :
    Calls Try.prog 14 #[v] w fun e w' => ∃ vc vu, e = .returned (.tuple #[.agg #[vc, vu], .bool (dedR xs).2.2]) ∧ RdT w' vc (dedR xs).1 ∧ RdM w' vu (dedR xs).2.1 ∧ Below w.heap.size w w' ∧ OwnRc w' w.heap.size w'.heap.size vc vu (dedR xs).1 (dedR xs).2.1 := by
  have R := hide h
  have hl8 : xs.length ≤ maxLen := by obtain ⟨a, cap, rfl, h1, h2, h4, h3⟩ := h; omega
  unfold maxLen at hl8
  obtain ⟨a, cap, rfl, h1, h2, h4, h3⟩ := h
  have H3 := hide h3
  clear h3 h4 h2 h1
  have x0 : Boxed2 (w.alloc (.cells #[.slice none 0 0, .slice none 0 0] 27)) w.heap.size 27 (.slice none 0 0) (.slice none 0 0) := boxed2_new w _ _ _
  have X0 := hide x0
  have B0 : Hid (Below w.heap.size w (w.alloc (.cells #[.slice none 0 0, .slice none 0 0] 27))) := (Below.refl _ w).alloc (Nat.le_refl _) _
  have c0 := x0.c0
  have c1 := x0.c1
  have f0 := x0.f0 0
  have f1 := x0.f0 1
  clear x0
  by_cases h8 : xs.length ≤ 8
  case neg =>
    rw [show dedR xs = ([], [], false) from if_neg (fun h => h8 h.1)]
    have h8' : (8 : Int) < (xs.length : Int) := by omega
    go_enter Try.func14, Try.ntmps14
    go_wp2
    refine bodyPost_ret (res_rcp2 rfl _ _ w.heap.size _ _ (0, 0) rfl X0.out) rfl ⟨_, _, rfl, rdT_nil9 _, rdM_nil9 _, B0.out, ownRc_nil _ _ _⟩
  have h8' : ¬ (8 : Int) < (xs.length : Int) := by omega
  by_cases hok : ∀ i, i < xs.length → (xs.getD i ⟨#[]⟩).size ≤ 300
  case neg =>
    rw [show dedR xs = ([], [], false) from if_neg (fun h => hok h.2)]
    have HN := hide (decide_eq_false hok)
    clear hok
    go_enter Try.func14, Try.ntmps14
    go_wp2_with fail
    refine (allTexts_calls 62 (fun s => s.size ≤ 300) (fun t w ht => isCutText_calls t w ht) (enters_of Try.func62 (by kernel_rfl) rfl) _ xs _ (R.out.below B0.out)).mono ?_
    rintro e w1 ⟨rfl, rfl⟩
    rw [HN.out]
    go_wp2
    refine bodyPost_ret (res_rcp2 rfl _ _ w.heap.size _ _ (0, 0) rfl X0.out) rfl ⟨_, _, rfl, rdT_nil9 _, rdM_nil9 _, B0.out, ownRc_nil _ _ _⟩
  rw [show dedR xs = ((dedF xs).1, (dedF xs).2, true) from if_pos ⟨h8, hok⟩]
  have HN := hide (decide_eq_true hok)
  have HOK := hide hok
  clear hok
  obtain ⟨n, _⟩ : ∃ n : Nat, True := ⟨0, trivial⟩
  refine (callsIn_wide (n := n)).1 (callsIn_of_wp_marks Try.func14 rfl trivial ?_ rfl)
  simp only [Try.ntmps14, List.size_toArray, List.length_cons, List.length_nil, Nat.reduceAdd, Nat.reduceSub, Array.replicate_succ, Array.replicate_zero, List.push_toArray, List.append_toArray, List.nil_append, List.cons_append]
  gi_wp2_with fail
  refine wide_call (allTexts_calls 62 (fun s => s.size ≤ 300) (fun t w ht => isCutText_calls t w ht) (enters_of Try.func62 (by kernel_rfl) rfl) _ xs _ (R.out.below B0.out)) ?_
  rintro e w1 ⟨rfl, rfl⟩
  rw [HN.out]
  have hmm := @run_makeMap Try.prog
  have hmk := fun W : World => mk_rows9 xs.length (by omega) W
  have P0 := hide (pin_new w xs.length)
  gi_wp2
  generalize (((((w.alloc (.cells #[.slice none 0 0, .slice none 0 0] 27)).alloc (.map #[] 0)).alloc (.cells #[.slice none 0 0, .map (some (w.heap.size + 1))] 86)).alloc (.cells (Array.replicate xs.length (.slice none 0 0)) 41)).alloc (.cells #[.slice (some ⟨w.heap.size + 3, 0, none⟩) xs.length xs.length] 25)) = w5 at P0 ⊢
  clear hmm hmk c0 c1 f0 f1 X0 B0
  refine wpIn_loop (fun ac W => ∃ (k : Nat) (u6 u7 u27 u28 u29 u30 u31 u32 u46 : Value) (rs : List Nat) (m : Nat) (v : Value) (D : DataW Unit) (vs : List Value),
    ac = { tmps := #[.slice a xs.length cap, undef, .pointer (some ⟨w.heap.size, 0, none⟩), .bool false, .pointer (some ⟨w.heap.size + 2, 0, none⟩), .pointer (some ⟨w.heap.size + 4, 0, none⟩), u6, u7, undef, undef,
      .slice a xs.length cap, .int .i64 xs.length, .bool false, .bool false, .slice a xs.length cap, .bool true, .bool false, .bool false, undef, .map (some (w.heap.size + 1)), .agg #[.slice none 0 0, .map (some (w.heap.size + 1))],
      .slice a xs.length cap, .int .i64 xs.length, .slice (some ⟨w.heap.size + 3, 0, none⟩) xs.length xs.length, .slice a xs.length cap, .int .i64 xs.length, .int .i64 k, u27, u28, u29, u30, u31, u32, undef, undef, undef, undef, undef, undef, undef, undef, undef, undef, undef, undef, undef, u46, undef, undef, undef, undef], defers := rs.map mark9 } ∧
    k ≤ xs.length ∧ PIn w W (w.heap.size + 5) 0 m v D vs (dedF (xs.take k)).1 (usR xs k) ∧ m ≤ 300 * k ∧ rs.Nodup ∧ ∀ r ∈ rs, w.heap.size + 5 ≤ r ∧ W.heap[r]? = some (.deferred (some []))) (fun ac _ => xs.length - (intOf (ac.tmps.getD 26 undef)).toNat) ?_ ?_
  · exact ⟨0, _, _, _, _, _, _, _, _, _, [], 0, _, _, _, rfl, Nat.zero_le _, P0.out, Nat.le_refl _, List.nodup_nil, fun r hr => by cases hr⟩
  rintro ac W ⟨k, u6, u7, u27, u28, u29, u30, u31, u32, u46, rs, m, v, D, vs, rfl, hk, hP, hm, hnd, hmk⟩
  by_cases hlt : k < xs.length
  · rcases H3.out with h3 | ⟨b, off, rfl, hbs, hc⟩
    · subst h3; simp at hlt
    have hck := (hP.below.cell (p := ⟨b, off + k, none⟩) hbs).trans (hc k hlt)
    have hbW : b < W.heap.size := Nat.lt_of_lt_of_le hbs hP.below.size
    clear hc
    have hsn := dedF_snoc xs k hlt
    have hs3 := HOK.out k hlt
    obtain ⟨s, hs⟩ : ∃ s, s = xs.getD k ⟨#[]⟩ := ⟨_, rfl⟩
    rw [← hs] at hck hsn hs3
    have HSN := hide hsn
    have HPP := hide hP
    have HMK := hide hmk
    have HND := hide hnd
    have hlt' : (k : Int) < (xs.length : Int) := by omega
    clear hsn hs hP hmk hnd
    gi_wp2_with fail
    refine wide_call (chunksIn_calls s _) ?_
    rintro e w1 ⟨rfl, rfl⟩
    gi_wp2
    have hPk := HPP.out.next (lo' := W.heap.size) (c1' := W.heap.size + 8) (by omega) (by have := HPP.out.useb.lt; omega)
    have hul := dedF_len xs k hk HOK.out
    have hal := dedF_all xs k hk HOK.out
    have hU0 : (usR xs k).set k [] = usR xs k := usR_set0 xs k hul.1 hlt
    have hUl : (usR xs k).length = xs.length := usR_len xs k hul.1 hk
    have HU1 := hide (usR_setN xs k hul.1 hlt s HSN.out)
    have HC1 : Hid ((useF (dedF (xs.take k)).1 (chunksT s)).2 = (dedF (xs.take (k + 1))).1) := by show _ = _; rw [HSN.out]; rfl
    have htl := chunksT_length s
    have hcl := hul.2
    have HAL := hide hal
    have hcsz := chunksT_sizes s
    have HCS := hide hcsz
    have b0 : Hid (PIn w ((W.alloc (.cells #[.int .i64 k] 3)).alloc (.cells #[.string s] 9)) W.heap.size (W.heap.size + 8) m v D vs (dedF (xs.take k)).1 ((usR xs k).set k [])) := by
      show PIn _ _ _ _ _ _ _ _ _ _
      rw [hU0]
      exact (hPk.same ((hPk.below.alloc hPk.below.size _).alloc (by have := hPk.below.size; simp; omega) _) (fun g o hg _ => by
        have hgl := (Array.getElem?_eq_some_iff.1 hg).1
        rw [Below.heap_alloc _ _ _ (by simp; omega), Below.heap_alloc _ _ _ hgl]
        exact hg))
    have b1 : Hid (Boxed ((W.alloc (.cells #[.int .i64 k] 3)).alloc (.cells #[.string s] 9)) W.heap.size 3 (.int .i64 k)) := (Boxed.new W 3 (.int .i64 k)).alloc _
    have b2 : Hid (Boxed ((W.alloc (.cells #[.int .i64 k] 3)).alloc (.cells #[.string s] 9)) (W.heap.size + 1) 9 (.string s)) := by
      have := Boxed.new (W.alloc (.cells #[.int .i64 k] 3)) 9 (.string s)
      rw [World.size_alloc] at this
      exact this
    have b3 : Hid (∀ r ∈ rs, w.heap.size + 5 ≤ r ∧ r < W.heap.size ∧ ((W.alloc (.cells #[.int .i64 k] 3)).alloc (.cells #[.string s] 9)).heap[r]? = some (.deferred (some []))) := fun r hr => by
      have h1 := HMK.out r hr
      have hgl := (Array.getElem?_eq_some_iff.1 h1.2).1
      refine ⟨h1.1, hgl, ?_⟩
      rw [Below.heap_alloc _ _ _ (by simp; omega), Below.heap_alloc _ _ _ hgl]
      exact h1.2
    have hsz : ((W.alloc (.cells #[.int .i64 k] 3)).alloc (.cells #[.string s] 9)).heap.size = W.heap.size + 2 := by simp
    generalize (W.alloc (.cells #[.int .i64 k] 3)).alloc (.cells #[.string s] 9) = w0 at b0 b1 b2 b3 hsz ⊢
    have hPW := HPP.out.useb.lt
    clear hPk hal hcsz hck
    generalize (dedF (xs.take k)).1 = C at b0 HC1 hcl HAL HU1
    refine wp_rangeI (gf := 117) (lb := #[.pointer (some ⟨W.heap.size + 1, 0, none⟩)]) rfl (enters_of Try.func117 (by kernel_rfl) rfl) (chunks1_iter s (W.heap.size + 1) (by omega)) ?ps
      (fun i W' => ∃ (m' : Nat) (v' : Value) (D' : DataW Unit) (vs' : List Value), PIn w W' W.heap.size (W.heap.size + 8) m' v' D' vs' (useF C ((chunksT s).take i)).2 ((usR xs k).set k (useF C ((chunksT s).take i)).1) ∧ m' ≤ 300 * k + i ∧ Boxed W' W.heap.size 3 (.int .i64 k) ∧ Boxed W' (W.heap.size + 1) 9 (.string s) ∧ ∀ r ∈ rs, w.heap.size + 5 ≤ r ∧ r < W.heap.size ∧ W'.heap[r]? = some (.deferred (some []))) ?ab ?cap
      ⟨m, v, D, vs, b0.out, by omega, b1.out, b2.out, b3.out⟩ ?round ?done
    case ps => intro x hx; obtain ⟨k, hk⟩ := List.getElem?_of_mem hx; obtain ⟨p, _, rfl⟩ := chunkArgs_some hk; rfl
    case cap => rintro i A ⟨_, _, _, _, _, _, _, h, _⟩; exact h.cell
    case ab =>
      rintro i A B ⟨m', v', D', vs', h1, h2, h3, h4, h5⟩ hs
      rw [hsz] at hs
      exact ⟨m', v', D', vs', h1.same (hs.below h1.below (by omega) (Nat.le_refl _)) (fun g o hg ho => hs.same g o hg (by rcases ho with h | h; exact .inl (by omega); exact .inr ⟨h.1, .inr (by have := h.2; omega)⟩)), h2, hs.boxed h3 (.inl (by omega)), hs.boxed h4 (.inl (by omega)), fun r hr => ⟨(h5 r hr).1, (h5 r hr).2.1, hs.same r _ (h5 r hr).2.2 (.inl (by have := (h5 r hr).2.1; omega))⟩⟩
    case round =>
      intro n' l i x W1 hx hi _
      obtain ⟨p, hp, rfl⟩ := chunkArgs_some hx
      have hil : i < (chunksT s).length := by rw [← chunkArgs_cuts9]; exact (List.getElem?_eq_some_iff.1 hx).1
      have hci := chunksT_at hp
      have hun := useF_snoc C (chunksT s) i hil
      rw [List.getD_eq_getElem?_getD, hci] at hun
      have hcm : s.extract p.1 p.2 ∈ chunksT s := List.mem_of_getElem? hci
      have hcs := HCS.out _ hcm
      have HUN := hide hun
      have hfl := useF_len C ((chunksT s).take i)
      rw [List.length_take] at hfl
      clear hi hx hp hci hun hcm
      generalize s.extract p.1 p.2 = c at HUN hcs ⊢
      generalize p.2 = p2
      generalize useF C ((chunksT s).take i) = F at HUN hfl ⊢
      obtain ⟨us, C'⟩ := F
      have HUN2 : Hid (useF C ((chunksT s).take (i + 1)) = (us ++ [((ix9 C' c : Nat) : Int)], add9 C' c)) := HUN.out
      obtain ⟨hf1, hf2⟩ := hfl
      have hf1' : us.length ≤ 300 := by show (us, C').1.length ≤ 300; omega
      have hf2' : C'.length ≤ 2700 := by show (us, C').2.length ≤ 2700; omega
      have HUL := hide hUl
      have mix : Try.prog.follows .mixedOrders = true := by kernel_rfl
      clear hf1 hf2 HUN hul hU0 hUl
      gi_wp2
      refine ⟨trivial, ?_⟩
      rintro W2 ⟨m2, v2, D2, vs2, hP2, hm2, hk2, hs2, hr2⟩ hW2
      rw [hsz] at hW2
      have hlen : vs2.length = xs.length := by rw [hP2.len, List.length_set]; exact HUL.out
      have PD := hide hP2.drew
      have HR := hide hr2
      have HB2 := hide hs2
      obtain ⟨vk, hvk⟩ : ∃ vk, vk = vs2.getD k (.slice none 0 0) := ⟨_, rfl⟩
      have huk : ((usR xs k).set k us).getD k [] = us := by rw [getD_set9 _ _ _ _ _ (by rw [HUL.out]; exact hlt), if_pos rfl]
      have hkU : k < ((usR xs k).set k us).length := by rw [List.length_set, HUL.out]; exact hlt
      have c5 : W2.drew.cell? ⟨w.heap.size + 3, k, none⟩ = some vk := by rw [hvk]; exact rowcell9 PD.out.rowb k (by omega)
      have hHeld : W2.drew.cell? ⟨w.heap.size + 4, 0, none⟩ = some (.slice (some ⟨w.heap.size + 3, 0, none⟩) xs.length xs.length) ∧ W2.drew.cell? ⟨W.heap.size, 0, none⟩ = some (.int .i64 k) := ⟨by have := PD.out.useb.cell; rwa [hlen] at this, hk2.cell⟩
      have hm1 : m2 ≤ 100000 := by omega
      have hC1 : C'.length ≤ 100000 := by omega
      have hb1 : w.heap.size ≤ W2.drew.heap.size := PD.out.below.size
      have hW2' : W.heap.size + 2 + 2 + 4 ≤ W2.drew.heap.size := hW2
      have hkb : W.heap.size < W2.drew.heap.size := by omega
      have hcs1 : c.size ≤ 1048576 := by omega
      have NX : Hid (∀ (w1 : World) (v1 : Value) (D1 : DataW Unit), Book w1 (w.heap.size + 2) (w.heap.size + 1) w.heap.size (m2 + 1) v1 (add9 C' c) D1 → (v1.ownBlock = v2.ownBlock ∨ ∃ g, v1.ownBlock = some g ∧ W2.drew.heap.size ≤ g) → Touch (fun k => k = w.heap.size + 2 ∨ k = w.heap.size + 1 ∨ v2.ownBlock = some k) W2.drew w1 →
          True ∧ (w1.cell? ⟨w.heap.size + 4, 0, none⟩ = some (.slice (some ⟨w.heap.size + 3, 0, none⟩) xs.length xs.length) ∧ w1.cell? ⟨W.heap.size, 0, none⟩ = some (.int .i64 k)) ∧ w1.cell? ⟨w.heap.size + 3, k, none⟩ = some vk ∧ (w1.alloc (.cells #[.int .i64 (ix9 C' c : Nat)] 3)).cell? ⟨w.heap.size + 3, k, none⟩ = some vk ∧
          ((w1.alloc (.cells #[.int .i64 (ix9 C' c : Nat)] 3)).cell? ⟨w.heap.size + 4, 0, none⟩ = some (.slice (some ⟨w.heap.size + 3, 0, none⟩) xs.length xs.length) ∧ (w1.alloc (.cells #[.int .i64 (ix9 C' c : Nat)] 3)).cell? ⟨W.heap.size, 0, none⟩ = some (.int .i64 k)) ∧
          ∃ (g3 cap3 : Nat) (w2 : World), (Builtin.append_ #[41, 41] 41 #[vk, .slice (some ⟨w1.heap.size, 0, none⟩) 1 1]).run Try.prog (w1.alloc (.cells #[.int .i64 (ix9 C' c : Nat)] 3)) = .ok (.slice (some ⟨g3, 0, none⟩) (us.length + 1) cap3) w2 ∧
            (w2.cell? ⟨w.heap.size + 4, 0, none⟩ = some (.slice (some ⟨w.heap.size + 3, 0, none⟩) xs.length xs.length) ∧ w2.cell? ⟨W.heap.size, 0, none⟩ = some (.int .i64 k)) ∧ w2.cell? ⟨w.heap.size + 3, k, none⟩ = some vk ∧ w2.frozen? ⟨w.heap.size + 3, k, none⟩ = false ∧
            ((w2.setCell ⟨w.heap.size + 3, k, none⟩ (.slice (some ⟨g3, 0, none⟩) (us.length + 1) cap3)).cell? ⟨w.heap.size + 4, 0, none⟩ = some (.slice (some ⟨w.heap.size + 3, 0, none⟩) xs.length xs.length) ∧ (w2.setCell ⟨w.heap.size + 3, k, none⟩ (.slice (some ⟨g3, 0, none⟩) (us.length + 1) cap3)).cell? ⟨W.heap.size, 0, none⟩ = some (.int .i64 k)) ∧
            (Keep (W.heap.size + 2) (W.heap.size + 2 + 2) (W.heap.size + 2 + 2 + 4) W2 (w2.setCell ⟨w.heap.size + 3, k, none⟩ (.slice (some ⟨g3, 0, none⟩) (us.length + 1) cap3)) ∧ ∃ (m' : Nat) (v' : Value) (D' : DataW Unit) (vs' : List Value), PIn w (w2.setCell ⟨w.heap.size + 3, k, none⟩ (.slice (some ⟨g3, 0, none⟩) (us.length + 1) cap3)) W.heap.size (W.heap.size + 8) m' v' D' vs' (add9 C' c) ((usR xs k).set k (us ++ [((ix9 C' c : Nat) : Int)])) ∧ m' ≤ 300 * k + (i + 1) ∧ Boxed (w2.setCell ⟨w.heap.size + 3, k, none⟩ (.slice (some ⟨g3, 0, none⟩) (us.length + 1) cap3)) W.heap.size 3 (.int .i64 k) ∧ Boxed (w2.setCell ⟨w.heap.size + 3, k, none⟩ (.slice (some ⟨g3, 0, none⟩) (us.length + 1) cap3)) (W.heap.size + 1) 9 (.string s) ∧ ∀ r ∈ rs, w.heap.size + 5 ≤ r ∧ r < W.heap.size ∧ (w2.setCell ⟨w.heap.size + 3, k, none⟩ (.slice (some ⟨g3, 0, none⟩) (us.length + 1) cap3)).heap[r]? = some (.deferred (some [])))) := by
        intro w1 v1 D1 bk hv tc
        have P1 := PD.out.num bk hv tc (by omega)
        have s1 := tc.size
        have bk1 : Boxed w1 W.heap.size 3 (.int .i64 k) := (tc.same _ hk2.lt (fun e => by rcases e with e | e | e; omega; omega; have := hP2.vloc _ e; omega)).trans hk2
        have bs1 : Boxed w1 (W.heap.size + 1) 9 (.string s) := (tc.same _ hs2.lt (fun e => by rcases e with e | e | e; omega; omega; have := hP2.vloc _ e; omega)).trans hs2
        have mk1 : ∀ r ∈ rs, w1.heap[r]? = some (.deferred (some [])) := fun r hr => (PD.out.any.keepNum (c0 := 0) tc).same r _ (hr2 r hr).1 (hr2 r hr).2.2 (.inl rfl)
        have hsK : W2.heap.size ≤ w1.heap.size := s1
        obtain ⟨i0, hi0, hz0, hz1, hz2⟩ := info_parts infoInt
        generalize ix9 C' c = y
        have o0 : w1.ownsRow w.heap.size 3 1 vk us.length (us.map (Value.int .i64)) := by
          have := P1.rows k hkU
          rw [huk, ← hvk] at this
          exact this
        have tmpb : (w1.alloc (.cells #[.int .i64 (y : Nat)] 3)).heap[w.heap.size + 3]? = some (.cells vs2.toArray 41 (0, 0)) := (Below.heap_alloc _ _ _ (Array.getElem?_eq_some_iff.1 P1.rowb).1).trans P1.rowb
        obtain ⟨v', w2, hrun, o1, g1, _, a1⟩ := run_append_own_at (P := Try.prog) (w1.alloc (.cells #[.int .i64 (y : Nat)] 3)) w.heap.size 41 41 3 i0 (.int .i64 0) 1 8 Try.underlying41 hi0 hz0 hz1 hz2 rfl (by decide) vk us.length _ (World.ownsRow.alloc o0 _) ⟨w1.heap.size, 0, none⟩ 1 1 [.int .i64 (y : Nat)] rfl (cell_one_new _ _ _) (by simp [Value.oneCell']) (by unfold maxLen; omega) (by omega) (by have := P1.below.size; simp; omega)
        rw [World.size_alloc] at a1
        obtain ⟨g3, cap3, rfl⟩ := ownsRow_succ o1
        have g1' : (w1.alloc (.cells #[.int .i64 (y : Nat)] 3)).grownBy w2 (vs2.getD k (.slice none 0 0)).ownBlock := by rw [← hvk]; exact g1
        obtain ⟨r2, u2, P2⟩ := P1.put hkU (x := (y : Int)) (by rw [huk]; exact o1) g1' (by rw [← hvk]; exact a1) (by omega)
        rw [huk, List.set_set] at P2
        have far : ∀ g, vk.ownBlock = some g → g < W.heap.size ∨ W.heap.size + 8 ≤ g := fun g e => P1.rloc k g hkU (by rw [← hvk]; exact e)
        have bk2 : Boxed w2 W.heap.size 3 (.int .i64 k) := (bk1.alloc _).kept g1 (fun e => by have := far _ e.symm; omega)
        have bs2 : Boxed w2 (W.heap.size + 1) 9 (.string s) := (bs1.alloc _).kept g1 (fun e => by have := far _ e.symm; omega)
        have hu : ∀ {Wx : World}, Boxed Wx (w.heap.size + 4) 25 (.slice (some ⟨w.heap.size + 3, 0, none⟩) vs2.length vs2.length) → Wx.cell? ⟨w.heap.size + 4, 0, none⟩ = some (.slice (some ⟨w.heap.size + 3, 0, none⟩) xs.length xs.length) := fun h => by have := h.cell; rwa [hlen] at this
        have bk3 : Boxed (w2.setCell ⟨w.heap.size + 3, k, none⟩ (.slice (some ⟨g3, 0, none⟩) (us.length + 1) cap3)) W.heap.size 3 (.int .i64 k) := (Below.heap_setCell w2 ⟨w.heap.size + 3, k, none⟩ _ W.heap.size (by show W.heap.size ≠ w.heap.size + 3; omega)).trans bk2
        have bs3 : Boxed (w2.setCell ⟨w.heap.size + 3, k, none⟩ (.slice (some ⟨g3, 0, none⟩) (us.length + 1) cap3)) (W.heap.size + 1) 9 (.string s) := (Below.heap_setCell w2 ⟨w.heap.size + 3, k, none⟩ _ (W.heap.size + 1) (by show W.heap.size + 1 ≠ w.heap.size + 3; omega)).trans bs2
        have u3 : Boxed (w2.setCell ⟨w.heap.size + 3, k, none⟩ (.slice (some ⟨g3, 0, none⟩) (us.length + 1) cap3)) (w.heap.size + 4) 25 (.slice (some ⟨w.heap.size + 3, 0, none⟩) vs2.length vs2.length) := (Below.heap_setCell w2 ⟨w.heap.size + 3, k, none⟩ _ (w.heap.size + 4) (by show w.heap.size + 4 ≠ w.heap.size + 3; omega)).trans u2
        refine ⟨trivial, ⟨hu P1.useb, bk1.cell⟩, by rw [hvk]; exact rowcell9 P1.rowb k (by omega), by rw [hvk]; exact rowcell9 tmpb k (by omega), ⟨hu (P1.useb.alloc _), (bk1.alloc _).cell⟩, g3, cap3, w2, hrun, ⟨hu u2, bk2.cell⟩, by rw [hvk]; exact rowcell9 r2 k (by omega), frozen_of_row w2 _ k _ _ r2, ⟨hu u3, bk3.cell⟩, ?_, m2 + 1, v1, D1, _, P2, by omega, bk3, bs3, fun r hr => ⟨(hr2 r hr).1, (hr2 r hr).2.1, (P1.any.keepPut (c0 := 0) hkU g1').same r _ (hr2 r hr).1 (mk1 r hr) (.inl rfl)⟩⟩
        exact (Keep.drew _ _ _ W2).trans (((PD.out.keepNum (c0 := W.heap.size + 4) tc).trans (P1.keepPut hkU g1')).mono (by omega) (fun g _ h h' => ⟨by omega, by omega⟩))
      clear hP2 hk2 hs2 hr2 hvk
      gi_wp2
      refine wpIn_mono (Q := fun e ac W' => e = .normal ∧ (Keep (W.heap.size + 2) (W.heap.size + 2 + 2) (W.heap.size + 2 + 2 + 4) W2 W' ∧ ∃ (m' : Nat) (v' : Value) (D' : DataW Unit) (vs' : List Value), PIn w W' W.heap.size (W.heap.size + 8) m' v' D' vs' (add9 C' c) ((usR xs k).set k (us ++ [((ix9 C' c : Nat) : Int)])) ∧ m' ≤ 300 * k + (i + 1) ∧ Boxed W' W.heap.size 3 (.int .i64 k) ∧ Boxed W' (W.heap.size + 1) 9 (.string s) ∧ ∀ r ∈ rs, w.heap.size + 5 ≤ r ∧ r < W.heap.size ∧ W'.heap[r]? = some (.deferred (some [])))) ?region ?_
      case region =>
        refine wpIn_region_held_rd (S := fun Wx => Wx.cell? ⟨w.heap.size + 4, 0, none⟩ = some (.slice (some ⟨w.heap.size + 3, 0, none⟩) xs.length xs.length) ∧ Wx.cell? ⟨W.heap.size, 0, none⟩ = some (.int .i64 k)) mix (by decide) ?_
        refine wpAnyH_take (i := 0) (v := .slice (some ⟨w.heap.size + 3, 0, none⟩) xs.length xs.length) rfl (by kernel_rfl) (by kernel_rfl) (by kernel_rfl) (fun _ _ _ h => Exit.noConfusion h.1) (Or.inl ⟨by rfl, by intro w' hSw; obtain ⟨hs1, hs2⟩ := hSw; dsimp only [List.getElem_toArray, List.getElem_cons_zero, List.getElem_cons_succ]; go_simp; try with_reducible rfl⟩) hHeld ?_
        try simp only [Act.put, List.getElem_toArray, List.getElem_cons_zero, List.getElem_cons_succ, List.setIfInBounds_toArray, List.set_cons_zero, List.set_cons_succ]
        refine wpAnyH_take (i := 1) (v := .int .i64 k) rfl (by kernel_rfl) (by kernel_rfl) (by kernel_rfl) (fun _ _ _ h => Exit.noConfusion h.1) (Or.inl ⟨by rfl, by intro w' hSw; obtain ⟨hs1, hs2⟩ := hSw; dsimp only [List.getElem_toArray, List.getElem_cons_zero, List.getElem_cons_succ]; go_simp; try with_reducible rfl⟩) hHeld ?_
        try simp only [Act.put, List.getElem_toArray, List.getElem_cons_zero, List.getElem_cons_succ, List.setIfInBounds_toArray, List.set_cons_zero, List.set_cons_succ]
        refine wpAnyH_take (i := 2) (v := .slice (some ⟨w.heap.size + 3, 0, none⟩) xs.length xs.length) rfl (by kernel_rfl) (by kernel_rfl) (by kernel_rfl) (fun _ _ _ h => Exit.noConfusion h.1) (Or.inl ⟨by rfl, by intro w' hSw; obtain ⟨hs1, hs2⟩ := hSw; dsimp only [List.getElem_toArray, List.getElem_cons_zero, List.getElem_cons_succ]; go_simp; try with_reducible rfl⟩) hHeld ?_
        try simp only [Act.put, List.getElem_toArray, List.getElem_cons_zero, List.getElem_cons_succ, List.setIfInBounds_toArray, List.set_cons_zero, List.set_cons_succ]
        refine wpAnyH_take (i := 3) (v := .int .i64 k) rfl (by kernel_rfl) (by kernel_rfl) (by kernel_rfl) (fun _ _ _ h => Exit.noConfusion h.1) (Or.inl ⟨by rfl, by intro w' hSw; obtain ⟨hs1, hs2⟩ := hSw; dsimp only [List.getElem_toArray, List.getElem_cons_zero, List.getElem_cons_succ]; go_simp; try with_reducible rfl⟩) hHeld ?_
        try simp only [Act.put, List.getElem_toArray, List.getElem_cons_zero, List.getElem_cons_succ, List.setIfInBounds_toArray, List.set_cons_zero, List.set_cons_succ]
        refine wpAnyH_take (i := 4) (v := .pointer (some ⟨w.heap.size + 3, k, none⟩)) rfl (by kernel_rfl) (by kernel_rfl) (by kernel_rfl) (fun _ _ _ h => Exit.noConfusion h.1) (Or.inl ⟨by rfl, by intro w' hSw; obtain ⟨hs1, hs2⟩ := hSw; dsimp only [List.getElem_toArray, List.getElem_cons_zero, List.getElem_cons_succ]; go_simp; try with_reducible rfl⟩) hHeld ?_
        try simp only [Act.put, List.getElem_toArray, List.getElem_cons_zero, List.getElem_cons_succ, List.setIfInBounds_toArray, List.set_cons_zero, List.set_cons_succ]
        refine wpAnyH_take (i := 6) (v := .string c) rfl (by kernel_rfl) (by kernel_rfl) (by kernel_rfl) (fun _ _ _ h => Exit.noConfusion h.1) (Or.inl ⟨by rfl, by intro w' hSw; obtain ⟨hs1, hs2⟩ := hSw; dsimp only [List.getElem_toArray, List.getElem_cons_zero, List.getElem_cons_succ]; go_simp; try with_reducible rfl⟩) hHeld ?_
        try simp only [Act.put, List.getElem_toArray, List.getElem_cons_zero, List.getElem_cons_succ, List.setIfInBounds_toArray, List.set_cons_zero, List.set_cons_succ]
        refine wpAnyH_ready (rs := [5, 7]) (by kernel_rfl) (by simp) ?_
        refine AllReadyH.cons rfl (fun K hK => ?_) ?_
        · go_simp
          refine hK _ _ hHeld (fun hHeld => ?_)
          clear hK K
          try simp only [Act.put, List.getElem_toArray, List.getElem_cons_zero, List.getElem_cons_succ, List.setIfInBounds_toArray, List.set_cons_zero, List.set_cons_succ]
          refine wpAnyH_ready (rs := [7]) (by kernel_rfl) (by simp) ?_
          refine AllReadyH.cons rfl (fun K hK => ?_) ?_
          · go_simp
            refine (numberOf9_calls _ _ _ _ _ _ _ c _ PD.out.book hm1 hC1 hcs1 hb1 (by omega)).mono ?_
            rintro e w1 ⟨rfl, v1, D1, bk, hv1, tc⟩
            obtain ⟨g1, hS1, hc1, hc2, AP⟩ := NX.out _ _ _ bk hv1 tc
            refine hK _ _ hS1 (fun hHeld => ?_)
            clear hK K
            try simp only [Act.put, List.getElem_toArray, List.getElem_cons_zero, List.getElem_cons_succ, List.setIfInBounds_toArray, List.set_cons_zero, List.set_cons_succ]
            refine wpAnyH_ready (rs := [8]) (by kernel_rfl) (by simp) ?_
            refine AllReadyH.cons rfl (fun K hK => ?_) ?_
            · go_simp
              obtain ⟨hS2, g3, cap3, w2, hrun, hS3, hc3, hf3, hS4, LF⟩ := AP
              refine hK _ _ hS2 (fun hHeld => ?_)
              clear hK K
              try simp only [Act.put, List.getElem_toArray, List.getElem_cons_zero, List.getElem_cons_succ, List.setIfInBounds_toArray, List.set_cons_zero, List.set_cons_succ]
              refine wpAnyH_ready (rs := [9]) (by kernel_rfl) (by simp) ?_
              refine AllReadyH.cons rfl (fun K hK => ?_) ?_
              · rw [if_pos (by rfl)]
                refine wp_append_eq9 rfl rfl rfl hrun (hK _ _ hS3 (fun hHeld => ?_))
                clear hK K hrun
                try simp only [Act.put, List.getElem_toArray, List.getElem_cons_zero, List.getElem_cons_succ, List.setIfInBounds_toArray, List.set_cons_zero, List.set_cons_succ]
                refine wpAnyH_take (i := 10) (v := .pointer (some ⟨w.heap.size + 3, k, none⟩)) rfl (by kernel_rfl) (by kernel_rfl) (by kernel_rfl) (fun _ _ _ h => Exit.noConfusion h.1) (Or.inl ⟨by rfl, by intro w' hSw; obtain ⟨hs1, hs2⟩ := hSw; dsimp only [List.getElem_toArray, List.getElem_cons_zero, List.getElem_cons_succ]; go_simp; try with_reducible rfl⟩) hHeld ?_
                try simp only [Act.put, List.getElem_toArray, List.getElem_cons_zero, List.getElem_cons_succ, List.setIfInBounds_toArray, List.set_cons_zero, List.set_cons_succ]
                refine wpAnyH_ready (rs := [11]) (by kernel_rfl) (by simp) ?_
                refine AllReadyH.cons rfl (fun K hK => ?_) ?_
                · go_simp
                  refine hK _ _ hS4 (fun hHeld => ?_)
                  clear hK K
                  refine wpAnyH_done (by kernel_rfl) ?_ _
                  exact ⟨rfl, LF⟩
                exact AllReadyH.nil
              exact AllReadyH.nil
            exact AllReadyH.nil
          exact AllReadyH.nil
        refine AllReadyH.cons rfl (fun K hK => ?_) ?_
        · go_simp
          refine (numberOf9_calls _ _ _ _ _ _ _ c _ PD.out.book hm1 hC1 hcs1 hb1 (by omega)).mono ?_
          rintro e w1 ⟨rfl, v1, D1, bk, hv1, tc⟩
          obtain ⟨g1, hS1, hc1, hc2, AP⟩ := NX.out _ _ _ bk hv1 tc
          refine hK _ _ hS1 (fun hHeld => ?_)
          clear hK K
          try simp only [Act.put, List.getElem_toArray, List.getElem_cons_zero, List.getElem_cons_succ, List.setIfInBounds_toArray, List.set_cons_zero, List.set_cons_succ]
          refine wpAnyH_ready (rs := [5, 8]) (by kernel_rfl) (by simp) ?_
          refine AllReadyH.cons rfl (fun K hK => ?_) ?_
          · go_simp
            refine hK _ _ hHeld (fun hHeld => ?_)
            clear hK K
            try simp only [Act.put, List.getElem_toArray, List.getElem_cons_zero, List.getElem_cons_succ, List.setIfInBounds_toArray, List.set_cons_zero, List.set_cons_succ]
            refine wpAnyH_ready (rs := [8]) (by kernel_rfl) (by simp) ?_
            refine AllReadyH.cons rfl (fun K hK => ?_) ?_
            · go_simp
              obtain ⟨hS2, g3, cap3, w2, hrun, hS3, hc3, hf3, hS4, LF⟩ := AP
              refine hK _ _ hS2 (fun hHeld => ?_)
              clear hK K
              try simp only [Act.put, List.getElem_toArray, List.getElem_cons_zero, List.getElem_cons_succ, List.setIfInBounds_toArray, List.set_cons_zero, List.set_cons_succ]
              refine wpAnyH_ready (rs := [9]) (by kernel_rfl) (by simp) ?_
              refine AllReadyH.cons rfl (fun K hK => ?_) ?_
              · rw [if_pos (by rfl)]
                refine wp_append_eq9 rfl rfl rfl hrun (hK _ _ hS3 (fun hHeld => ?_))
                clear hK K hrun
                try simp only [Act.put, List.getElem_toArray, List.getElem_cons_zero, List.getElem_cons_succ, List.setIfInBounds_toArray, List.set_cons_zero, List.set_cons_succ]
                refine wpAnyH_take (i := 10) (v := .pointer (some ⟨w.heap.size + 3, k, none⟩)) rfl (by kernel_rfl) (by kernel_rfl) (by kernel_rfl) (fun _ _ _ h => Exit.noConfusion h.1) (Or.inl ⟨by rfl, by intro w' hSw; obtain ⟨hs1, hs2⟩ := hSw; dsimp only [List.getElem_toArray, List.getElem_cons_zero, List.getElem_cons_succ]; go_simp; try with_reducible rfl⟩) hHeld ?_
                try simp only [Act.put, List.getElem_toArray, List.getElem_cons_zero, List.getElem_cons_succ, List.setIfInBounds_toArray, List.set_cons_zero, List.set_cons_succ]
                refine wpAnyH_ready (rs := [11]) (by kernel_rfl) (by simp) ?_
                refine AllReadyH.cons rfl (fun K hK => ?_) ?_
                · go_simp
                  refine hK _ _ hS4 (fun hHeld => ?_)
                  clear hK K
                  refine wpAnyH_done (by kernel_rfl) ?_ _
                  exact ⟨rfl, LF⟩
                exact AllReadyH.nil
              exact AllReadyH.nil
            exact AllReadyH.nil
          refine AllReadyH.cons rfl (fun K hK => ?_) ?_
          · go_simp
            obtain ⟨hS2, g3, cap3, w2, hrun, hS3, hc3, hf3, hS4, LF⟩ := AP
            refine hK _ _ hS2 (fun hHeld => ?_)
            clear hK K
            try simp only [Act.put, List.getElem_toArray, List.getElem_cons_zero, List.getElem_cons_succ, List.setIfInBounds_toArray, List.set_cons_zero, List.set_cons_succ]
            refine wpAnyH_ready (rs := [5]) (by kernel_rfl) (by simp) ?_
            refine AllReadyH.cons rfl (fun K hK => ?_) ?_
            · go_simp
              refine hK _ _ hHeld (fun hHeld => ?_)
              clear hK K
              try simp only [Act.put, List.getElem_toArray, List.getElem_cons_zero, List.getElem_cons_succ, List.setIfInBounds_toArray, List.set_cons_zero, List.set_cons_succ]
              refine wpAnyH_ready (rs := [9]) (by kernel_rfl) (by simp) ?_
              refine AllReadyH.cons rfl (fun K hK => ?_) ?_
              · rw [if_pos (by rfl)]
                refine wp_append_eq9 rfl rfl rfl hrun (hK _ _ hS3 (fun hHeld => ?_))
                clear hK K hrun
                try simp only [Act.put, List.getElem_toArray, List.getElem_cons_zero, List.getElem_cons_succ, List.setIfInBounds_toArray, List.set_cons_zero, List.set_cons_succ]
                refine wpAnyH_take (i := 10) (v := .pointer (some ⟨w.heap.size + 3, k, none⟩)) rfl (by kernel_rfl) (by kernel_rfl) (by kernel_rfl) (fun _ _ _ h => Exit.noConfusion h.1) (Or.inl ⟨by rfl, by intro w' hSw; obtain ⟨hs1, hs2⟩ := hSw; dsimp only [List.getElem_toArray, List.getElem_cons_zero, List.getElem_cons_succ]; go_simp; try with_reducible rfl⟩) hHeld ?_
                try simp only [Act.put, List.getElem_toArray, List.getElem_cons_zero, List.getElem_cons_succ, List.setIfInBounds_toArray, List.set_cons_zero, List.set_cons_succ]
                refine wpAnyH_ready (rs := [11]) (by kernel_rfl) (by simp) ?_
                refine AllReadyH.cons rfl (fun K hK => ?_) ?_
                · go_simp
                  refine hK _ _ hS4 (fun hHeld => ?_)
                  clear hK K
                  refine wpAnyH_done (by kernel_rfl) ?_ _
                  exact ⟨rfl, LF⟩
                exact AllReadyH.nil
              exact AllReadyH.nil
            exact AllReadyH.nil
          exact AllReadyH.nil
        exact AllReadyH.nil
      rintro e ac W3 ⟨rfl, k1, k2⟩
      exact ⟨rfl, by rw [hsz]; exact k1, by rw [HUN2.out]; exact k2⟩
    case done =>
      rintro W3 ⟨m3, v3, D3, vs3, hP3, hm3, hk3, hs4, hr3⟩ hD hz3
      rw [chunkArgs_cuts9, List.take_length, HC1.out, HU1.out] at hP3
      rw [chunkArgs_cuts9] at hm3
      rw [hsz] at hD
      have PE := hide hP3.any
      have HR3 := hide hr3
      have HDD := hide hD
      have hm3' : m3 ≤ 300 * (k + 1) := by omega
      clear hP3 hr3 hD hk3 hs4 hm3 hul hU0 hUl
      gi_wp2
      rw [show ((k : Int) + 1) = ((k + 1 : Nat) : Int) by omega]
      refine ⟨⟨k + 1, _, _, _, _, _, _, _, _, _, w0.heap.size :: rs, m3, v3, D3, vs3, rfl, by omega, PE.out, hm3', List.nodup_cons.2 ⟨fun h => by have := (HR3.out _ h).2.1; omega, HND.out⟩, fun r hr => ?_⟩, ?_⟩
      · rcases List.mem_cons.1 hr with rfl | hr
        · exact ⟨by rw [hsz]; omega, by rw [hsz]; exact HDD.out⟩
        · exact ⟨(HR3.out r hr).1, (HR3.out r hr).2.2⟩
      · show xs.length - (intOf (.int .i64 ((k + 1 : Nat) : Int))).toNat < xs.length - (intOf (.int .i64 (k : Int))).toNat
        simp only [intOf, Int.toNat_natCast]
        omega
  · obtain rfl : k = xs.length := by omega
    have hlt' : ¬ (xs.length : Int) < (xs.length : Int) := by omega
    have PE := hide hP
    have HMK := hide hmk
    have HND := hide hnd
    have c0 := hP.book.box.c0
    have cu := hP.useb.cell
    have r0 := hP.res.c0
    have r1 := hP.res.c1
    have f0 := hP.res.f0 0
    have f1 := hP.res.f0 1
    obtain ⟨ac, cc, rfl⟩ := row_slice9 hP.book.row
    clear hP hmk hnd
    gi_wp2
    have hlen := PE.out.len
    rw [usR_full] at hlen
    have big : ∀ r ∈ rs, r ≠ w.heap.size := fun r hr => by have := (HMK.out r hr).1; omega
    refine leaves_marks rs _ HND.out (fun r hr => ((Below.heap_setCell _ _ _ r (big r hr)).trans (Below.heap_setCell _ _ _ r (big r hr))).trans (HMK.out r hr).2) (fun W3 hm3 => ?_)
    have X2 := boxed2_set1 (boxed2_set0 PE.out.res (.slice ac (dedF xs).1.length cc)) (.slice (some ⟨w.heap.size + 3, 0, none⟩) vs.length vs.length)
    have T : Touch (fun g => g = w.heap.size ∨ g ∈ rs) W W3 := ((Touch.setCell (S := fun g => g = w.heap.size ∨ g ∈ rs) _ _ _ _ (.inl rfl)).trans (Touch.setCell (S := fun g => g = w.heap.size ∨ g ∈ rs) _ _ _ _ (.inl rfl))).trans ⟨hm3.os, hm3.tape, hm3.output, hm3.size, fun g _ hn => hm3.same g (fun e => hn (.inr e))⟩
    have fx : ∀ g o, W.heap[g]? = some o → o.isCells = true → g ≠ w.heap.size → W3.heap[g]? = some o := fun g o he hc hne => (T.same g (Array.getElem?_eq_some_iff.1 he).1 (fun e => e.elim hne (fun hr => by
      have := (HMK.out g hr).2
      rw [he] at this
      cases this
      cases hc))).trans he
    have hal := dedF_all xs xs.length (Nat.le_refl _) HOK.out
    have hnl := (dedF_len xs xs.length (Nat.le_refl _) HOK.out).1
    rw [List.take_length] at hnl
    refine ⟨_, res_rcp2 rfl _ _ w.heap.size _ _ (0, 0) rfl ((hm3.same _ (fun e => big _ e rfl)).trans X2), _, _, rfl, ?_, ?_, Touch.below9 PE.out.below T (fun g hg e => by rcases e with e | e; omega; have := (HMK.out g e).1; omega) (Nat.le_refl _), ?_⟩
    · have := OwnT.rd (ownsRow_same (w' := W3) PE.out.book.row (fun g o hg he hc => fx g o he hc (row_box2 PE.out.book.row PE.out.res (by decide) hg))) (fun u h => by have := hal u h; unfold maxLen; omega)
      rw [List.take_length] at this
      exact this
    · have hr3 := fx _ _ PE.out.rowb rfl (by omega)
      have hrows := PE.out.rows
      rw [usR_full] at hrows
      rw [hlen]
      refine ⟨_, _, rfl, Nat.le_refl _, ⟨by unfold maxLen; omega, fun h => by cases h⟩, .inr ⟨w.heap.size + 3, 0, rfl, (Array.getElem?_eq_some_iff.1 hr3).1, fun i hi => ⟨_, by rw [Nat.zero_add]; exact rowcell9 hr3 i (by omega), ?_⟩⟩⟩
      have ho : Own W3 w.heap.size (vs.getD i (.slice none 0 0)) ((dedF xs).2.getD i []) := ownsRow_same (w' := W3) (hrows i hi) (fun g o hg he hc => fx g o he hc (row_box2 (hrows i hi) PE.out.res (by decide) hg))
      exact Own.rd ho
    · have oc := ownsRow_same (w' := W3) PE.out.book.row (fun g o hg he hc => fx g o he hc (row_box2 PE.out.book.row PE.out.res (by decide) hg))
      rw [List.take_length] at oc
      have hr3 := fx _ _ PE.out.rowb rfl (by omega)
      have hrows := PE.out.rows
      have hap := PE.out.apart
      rw [usR_full] at hrows hap
      have ho : ∀ i, i < (dedF xs).2.length → Own W3 w.heap.size (vs.getD i (.slice none 0 0)) ((dedF xs).2.getD i []) := fun i hi => ownsRow_same (w' := W3) (hrows i hi) (fun g o hg he hc => fx g o he hc (row_box2 (hrows i hi) PE.out.res (by decide) hg))
      refine ⟨⟨oc, fun k hk => (World.ownsRow.lt oc k hk).2⟩, vs, hlen, ?_, ho, fun k hk => ?_, fun i k hi hk => (World.ownsRow.lt (ho i hi) k hk).2, fun i j hi hj hij => ?_⟩
      · rw [← hlen]
        exact ⟨by simp, .inr ⟨w.heap.size + 3, _, _, rfl, by omega, hr3, Nat.le_refl _, by unfold maxLen; omega, by simp, List.take_of_length_le (by simp)⟩⟩
      · have e : w.heap.size + 3 = k := by simpa [Value.ownBlock] using hk
        have := (Array.getElem?_eq_some_iff.1 hr3).1
        omega
      · cases hb : (vs.getD i nilRow).ownBlock with
        | none => exact .inl rfl
        | some g =>
          right
          intro e
          exact hij (hap i j g hi hj hb e.symm)
end Go.Proofs.Ythmijjcddjlebaa
