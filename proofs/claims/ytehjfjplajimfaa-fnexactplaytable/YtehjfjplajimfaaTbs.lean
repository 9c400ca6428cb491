/-
  Slots sorted by the library: what slices.SortFunc does with a row of the call's own, and what append does. Each contract says what it asks.
-/
import Derived.Test.YtehjfjplajimfaaTbh
import Derived.Test.YtehjfjplajimfaaSrt
namespace Go.Proofs.Ytehjfjplajimfaa
open Go.RowKit
set_option linter.unusedVariables false

/-- A slot's three cells. -/
def encSl (x : Sl) : List Value := [.bool x.1, .int .i64 x.2.1, .int .i64 x.2.2]
theorem slC_at (xs : List Sl) (t : Nat) (h : t < xs.length * 3) : (slC xs)[t]? = some ((encSl (xs.getD (t / 3) sl0))[t % 3]!) := by
  have h3 : t % 3 = 0 ∨ t % 3 = 1 ∨ t % 3 = 2 := by omega
  rcases h3 with h0 | h0 | h0
  · obtain ⟨i, rfl⟩ : ∃ i, t = i * 3 := ⟨t / 3, by omega⟩
    rw [slC_0 xs i (by omega), h0, show i * 3 / 3 = i from by omega]; rfl
  · obtain ⟨i, rfl⟩ : ∃ i, t = i * 3 + 1 := ⟨t / 3, by omega⟩
    rw [slC_1 xs i (by omega), h0, show (i * 3 + 1) / 3 = i from by omega]; rfl
  · obtain ⟨i, rfl⟩ : ∃ i, t = i * 3 + 2 := ⟨t / 3, by omega⟩
    rw [slC_2 xs i (by omega), h0, show (i * 3 + 2) / 3 = i from by omega]; rfl
theorem getB (d : Array Sl) (i : Nat) : d[i]! = d.toList.getD i sl0 := by
  rw [List.getD_eq_getElem?_getD, Array.getElem?_toList]
  by_cases h : i < d.size
  · rw [getElem!_pos d i h, Array.getElem?_eq_getElem h, Option.getD_some]
  · rw [getElem!_neg d i h, Array.getElem?_eq_none (by omega), Option.getD_none]; rfl
theorem flat_sl (d : Array Sl) : Go.Sort.flatK encSl 3 d = (slC d.toList).toArray := by
  apply Array.ext_getElem?
  intro t
  by_cases h : t < d.size * 3
  · have e := slC_at d.toList t (by rw [Array.length_toList]; exact h)
    have e2 : (slC d.toList).toArray[t]? = (slC d.toList)[t]? := by simp
    rw [e2, e]
    simp [Go.Sort.flatK, h, getB]
  · rw [Array.getElem?_eq_none (by simp; omega), Array.getElem?_eq_none (by simp [slC_len]; omega)]
theorem holds_sl {w : World} {base g n cap : Nat} {xs : List Sl} (h : OwnS w base (.slice (some ⟨g, 0, none⟩) n cap) xs) : Go.Sort.HoldsK encSl 3 w g 0 xs.toArray := by
  obtain rfl := h.lenEq
  unfold Go.Sort.HoldsK
  rw [flat_sl]
  intro j hj
  have hj' : j < xs.length * 3 := by simpa [slC_len] using hj
  refine ⟨?_, World.ownsRow.frozenAt h _⟩
  rw [Nat.zero_add, World.ownsRow.cellAt h j (by omega), getElem!_pos (slC xs.toArray.toList).toArray j hj]
  have hj2 : j < (slC xs).length := by rw [slC_len]; exact hj'
  simp [List.getElem?_eq_getElem hj2]
theorem putC_sl (cur : Array Value) (d : Array Sl) (h : d.size * 3 ≤ cur.size) : (Go.Sort.putCells id 0 (Go.Sort.flatK encSl 3 d) cur).toList.take (d.size * 3) = slC d.toList := by
  rw [flat_sl]
  have hl : (slC d.toList).length = d.size * 3 := by simp [slC_len]
  apply List.ext_getElem?
  intro j
  by_cases hj : j < d.size * 3
  · rw [List.getElem?_take_of_lt hj, Array.getElem?_toList]
    have hj2 : j < (slC d.toList).length := by omega
    simp [Go.Sort.putCells, hl, hj, show j < cur.size by omega]
  · rw [List.getElem?_take_eq_none (by omega), List.getElem?_eq_none (by omega)]
theorem sorted_own {w : World} {base g n cap m : Nat} {xs : List Sl} {d : Array Sl} {os : Array Obj} (h : OwnS w base (.slice (some ⟨g, 0, none⟩) n cap) xs) (hd : d.size = xs.length) :
    OwnS (sortWorldK encSl 3 w g 0 m d os) base (.slice (some ⟨g, 0, none⟩) n cap) d.toList ∧ w.grownBy (sortWorldK encSl 3 w g 0 m d os) (some g) := by
  obtain rfl := h.lenEq
  rcases h.2 with ⟨h', _⟩ | ⟨g', cap', cur, e, hb, hg, hc, hm, hs, ht⟩
  · simp at h'
  simp only [Value.slice.injEq, Option.some.injEq, Addr.mk.injEq] at e
  obtain ⟨⟨rfl, _⟩, _, rfl⟩ := e
  have hlt : g < w.heap.size := (Array.getElem?_eq_some_iff.1 hg).1
  have hblk : (sortWorldK encSl 3 w g 0 m d os).heap[g]? = some (.cells (Go.Sort.putCells id 0 (Go.Sort.flatK encSl 3 d) cur) 81 (0, 0)) := by
    unfold sortWorldK
    rw [Go.Sort.heap_grow_old _ _ (by simpa [Go.Sort.putRowK, Go.Sort.putRow, Go.Sort.mapBlock, Go.Sort.ahead] using hlt)]
    simp [Go.Sort.putRowK, Go.Sort.putRow, Go.Sort.mapBlock, Go.Sort.ahead, Array.getElem?_modify, hg, Go.Sort.onCells]
  refine ⟨⟨by rw [slC_len], .inr ⟨g, cap, _, ?_, hb, hblk, ?_, hm, ?_, ?_⟩⟩, rfl, rfl, rfl, ?_, fun k hk hne => ?_⟩
  · simp [hd]
  · simpa [hd] using hc
  · simp [Go.Sort.putCells, hs]
  · have := putC_sl cur d (by rw [hs, hd]; omega)
    simpa using this
  · simp [sortWorldK, Go.Sort.grow, Go.Sort.putRowK, Go.Sort.putRow, Go.Sort.mapBlock, Go.Sort.ahead]
  · unfold sortWorldK
    rw [Go.Sort.heap_grow_old _ _ (by simpa [Go.Sort.putRowK, Go.Sort.putRow, Go.Sort.mapBlock, Go.Sort.ahead] using hk)]
    have : g ≠ k := fun e => hne (by rw [e])
    simp [Go.Sort.putRowK, Go.Sort.putRow, Go.Sort.mapBlock, Go.Sort.ahead, Array.getElem?_modify, this]
def cmpSl (x y : Sl) : Int := Lib.compareInt x.2.1 y.2.1
theorem ltSl (x y : Sl) : ltOf cmpSl x y = decide (x.2.1 < y.2.1) := by
  unfold ltOf cmpSl Lib.compareInt
  by_cases h1 : x.2.1 < y.2.1
  · simp [h1]
  · by_cases h2 : y.2.1 < x.2.1 <;> simp [h1, h2]
theorem swoSl : Go.Sort.SWO (ltOf cmpSl) where
  irrefl x := by rw [ltSl]; simp
  trans x y z h1 h2 := by rw [ltSl] at *; simp at *; omega
  ntrans x y z h1 h2 := by rw [ltSl] at *; simp at *; omega
theorem rising_of {d : Array Sl} (h : Go.Sort.SortedIn (ltOf cmpSl) 0 d.size d) : Rising d.toList := by
  unfold Rising
  rw [List.pairwise_iff_getElem]
  intro i j hi hj hij
  have := h i j (Nat.zero_le _) hij (by simpa using hj)
  rw [ltSl] at this
  have e1 : d[i]! = d.toList[i] := by rw [getElem!_pos d i (by simpa using hi)]; simp
  have e2 : d[j]! = d.toList[j] := by rw [getElem!_pos d j (by simpa using hj)]; simp
  rw [e1, e2] at this
  simpa using this
theorem perm_of {xs : List Sl} {d : Array Sl} (h : Go.Sort.PermIn 0 xs.toArray.size xs.toArray d) : d.toList.Perm xs := by
  obtain ⟨h1, _, h3⟩ := h
  have e1 : d.extract 0 xs.toArray.size = d := by rw [← h1]; simp
  rw [e1] at h3
  simpa using h3

set_option maxRecDepth 100000 in
set_option maxHeartbeats 1000000 in
theorem cmpClosure_calls (x y : Sl) (W : World) : Calls Try.prog 102 #[.agg #[.bool x.1, .int .i64 x.2.1, .int .i64 x.2.2], .agg #[.bool y.1, .int .i64 y.2.1, .int .i64 y.2.2]] W fun e w' => e = .returned (.int .i64 (cmpSl x y)) ∧ ∃ q os', w' = Go.Sort.grow (W.drewN q) os' := by
  have hcon := fun W' => AnyG.cmp_Compare_int Try.cmpInt x.2.1 y.2.1 W'
  change ∀ W', Calls Try.prog 103 _ _ _ at hcon
  unfold cmpSl
  generalize Lib.compareInt x.2.1 y.2.1 = r at hcon ⊢
  go_enter Try.func102, Try.ntmps102
  go_wp2_with (go_at_call 103; refine (hcon _).mono ?_; rintro e w' ⟨rfl, rfl⟩)
  go_ret
  exact ⟨rfl, 0, _, by rw [Go.Sort.alloc_eq_grow, Go.Sort.alloc_eq_grow, Go.Sort.grow_grow]; rfl⟩
theorem sortSl_calls (g cap n base : Nat) (xs : List Sl) (w : World) (h : OwnS w base (.slice (some ⟨g, 0, none⟩) n cap) xs) (hz : xs.length ≤ 1048576) :
    Calls Try.prog 101 #[.slice (some ⟨g, 0, none⟩) n cap, .func (.func 102) #[] #[]] w fun e w' => e = .returned (.tuple #[]) ∧ ∃ ds : List Sl, ds.Perm xs ∧ Rising ds ∧ OwnS w' base (.slice (some ⟨g, 0, none⟩) n cap) ds ∧ w.grownBy w' (some g) := by
  obtain rfl := h.lenEq
  have hlt : g < w.heap.size := (h.top g rfl)
  have eg : ∀ args w, (callFunc 102 args).run Try.prog w = .ok (.enter 102 args) w := enters_of Try.func102 (by kernel_rfl) rfl
  have hcon := AnyQ.slices_SortFunc Try.sortSl 3 Try.isAgg81 Try.sizeOf81 encSl (fun _ => rfl) (fun x v hv => by simp [encSl] at hv; rcases hv with rfl | rfl | rfl <;> rfl) cmpSl swoSl 102 #[] g 0 cap xs.toArray w eg (fun _ _ _ _ x y => cmpClosure_calls x y _) (holds_sl h) hlt (by simp; omega)
  refine hcon.mono ?_
  rintro e w' ⟨he, d', m, os, hp, hs, hw⟩
  have hsz : d'.size = xs.length := by have := hp.1; simpa using this
  have hs' : Go.Sort.SortedIn (ltOf cmpSl) 0 d'.size d' := by rw [hsz]; simpa using hs
  subst hw
  obtain ⟨o1, g1⟩ := sorted_own (m := m) (os := os) h hsz
  exact ⟨he, d'.toList, perm_of hp, rising_of hs', o1, g1⟩

/-- 'append(out, p...)', out the call's own row of slots, p whatever reads as these (nil too); and where the row lies then. -/
theorem run_app_sls {W : World} (ty : TypeId) (base : Nat) (v : Value) (xs : List Sl) (hown : OwnS W base v xs) (u : Value) (zs : List Sl) (hr : RdS W u zs) (hm : xs.length + zs.length ≤ 1048576) (hbase : base ≤ W.heap.size) :
    ∃ v' w', (Builtin.append_ #[26, 26] ty #[v, u]).run Try.prog W = .ok v' w' ∧ OwnS w' base v' (xs ++ zs) ∧ W.grownBy w' v.ownBlock ∧ (v'.ownBlock = v.ownBlock ∨ v'.ownBlock = some W.heap.size) := by
  obtain ⟨i0, hi, hz0, hz1, hz2⟩ := info_parts infoSl
  obtain ⟨ad, cap, rfl, h1, ⟨h2, h2'⟩, h3⟩ := hr
  cases ad with
  | none =>
    have hz : zs = [] := by
      rcases h3 with h3 | ⟨b, off, hb, _⟩
      · exact h3
      · cases hb
    subst hz
    obtain rfl := h2' rfl
    have hrun := run_append_owned_none (P := Try.prog) (w := W) base 26 ty 81 i0 3 Try.underlying26 hi v xs.length _ hown
    refine ⟨v, W, hrun, ?_, World.grownBy.refl _ _, .inl rfl⟩
    rw [List.append_nil]
    exact hown
  | some ad =>
    have hnews : ∀ j y, (slC zs)[j]? = some y → W.cell? (ad.add j) = some y := by
      intro j y hj
      have hjl : j < zs.length * 3 := by rw [← slC_len]; exact (List.getElem?_eq_some_iff.1 hj).1
      rcases h3 with h3 | ⟨b, off, hb, _, hc⟩
      · subst h3; simp at hjl
      obtain rfl := Option.some.inj hb
      have hadd : (⟨b, off, none⟩ : Addr).add j = ⟨b, off + j, none⟩ := by unfold Addr.add; split <;> simp_all
      rw [hadd]
      have hj3 : j % 3 = 0 ∨ j % 3 = 1 ∨ j % 3 = 2 := by omega
      rcases hj3 with h0 | h0 | h0
      · obtain ⟨i, rfl⟩ : ∃ i, j = i * 3 := ⟨j / 3, by omega⟩
        rw [slC_0 zs i (by omega)] at hj
        rw [(hc i (by omega)).1]
        exact hj
      · obtain ⟨i, rfl⟩ : ∃ i, j = i * 3 + 1 := ⟨j / 3, by omega⟩
        rw [slC_1 zs i (by omega)] at hj
        rw [← Nat.add_assoc, (hc i (by omega)).2.1]
        exact hj
      · obtain ⟨i, rfl⟩ : ∃ i, j = i * 3 + 2 := ⟨j / 3, by omega⟩
        rw [slC_2 zs i (by omega)] at hj
        rw [← Nat.add_assoc, (hc i (by omega)).2.2]
        exact hj
    obtain ⟨v', w', hrun, ho', hg', _, hat⟩ := run_append_own_at (P := Try.prog) W base 26 ty 81 i0 (.agg #[.bool false, .int .i64 0, .int .i64 0]) 3 24 Try.underlying26 hi hz0 hz1 hz2 rfl (by decide) v xs.length _ hown ad zs.length cap (slC zs) (by rw [slC_len]) hnews (slC_one zs) (by unfold maxLen; omega) (by omega) hbase
    refine ⟨v', w', hrun, ?_, hg', hat⟩
    show World.ownsRow _ _ _ _ _ (xs ++ zs).length _
    rw [slC_app, List.length_append]
    exact ho'
theorem wpList_app_sls {W : World} {ops : Array Oper} {rest : List Oper} {o : Oper} {a : Act} {Q : Exit → Act → World → Prop} (hgd : o.guard = none) (s x : Operand)
    (ho : o.op = .call { callee := .builtin .append, args := #[s, x], argTypes := #[26, 26] }) (base : Nat) (v : Value) (hs : a.eval s = v) (xs : List Sl) (hown : OwnS W base v xs) (u : Value) (hx : a.eval x = u) (zs : List Sl) (hr : RdS W u zs) (hm : xs.length + zs.length ≤ 1048576) (hbase : base ≤ W.heap.size)
    (h : ∀ v' w', OwnS w' base v' (xs ++ zs) → W.grownBy w' v.ownBlock → (v'.ownBlock = v.ownBlock ∨ v'.ownBlock = some W.heap.size) → wpList Try.prog ops Q rest (a.put o.dst v') w') : wpList Try.prog ops Q (o :: rest) a W := by
  refine wpList_plain hgd fun K hK => ?_
  obtain ⟨v', w', hrun, h1, h2, h3⟩ := run_app_sls (W := W) o.type base v xs hown u zs hr hm hbase
  unfold Oper.wp execOp
  simp only [ho, resolve, invoke, builtin, Sem.run_bind, Sem.run_pure, Result.andThen_ok, List.map_toArray, List.map_cons, List.map_nil, hs, hx, hrun]
  exact hK _ _ (h v' w' h1 h2 h3)
/-- One slot in a row of its own. -/
theorem rdS_one {w : World} {u : Bool} {k z : Int} : RdS (w.alloc (.cells #[.bool u, .int .i64 k, .int .i64 z] 81)) (.slice (some ⟨w.heap.size, 0, none⟩) 1 1) [(u, k, z)] := by
  have X := BoxAt.new w #[.bool u, .int .i64 k, .int .i64 z] 81
  refine ⟨_, 1, rfl, by simp, ⟨by unfold maxLen; omega, fun h => by cases h⟩, .inr ⟨w.heap.size, 0, rfl, X.lt, fun i hi => ?_⟩⟩
  have : i = 0 := by simpa using hi
  subst this
  exact ⟨X.cell 0, X.cell 1, X.cell 2⟩
end Go.Proofs.Ytehjfjplajimfaa
