/-
  Pieces put together: the program's JoinBody and its model's, call by call. No condition but a bound on the texts' lengths.
-/
import Derived.Test.YtpgmocogffolaaaSpl
import Derived.Test.YtpgmocogffolaaaJch
import Derived.Lib.AppendStr
namespace Go.Proofs.Ytpgmocogffolaaa
open Go.RowKit
set_option linter.unusedVariables false

/-- The i-th text may stand there. -/
abbrev gd (xs : List ByteArray) (i : Nat) : Prop := (1 ≤ (xs.getD i ⟨#[]⟩).size ∧ (xs.getD i ⟨#[]⟩).size ≤ 16) ∧ (i + 1 < xs.length → (xs.getD i ⟨#[]⟩).size = 16)
abbrev joinOk (xs : List ByteArray) : Prop := (1 ≤ xs.length ∧ xs.length ≤ 10) ∧ ∀ i, i < xs.length → gd xs i
def fl (xs : List ByteArray) : List Nat := xs.flatMap bs
def jnbR (xs : List ByteArray) : ByteArray × Bool := if joinOk xs then (ofN (fl xs), true) else (⟨#[]⟩, false)
theorem fl_snoc (xs : List ByteArray) (k : Nat) (h : k < xs.length) : fl (xs.take (k + 1)) = fl (xs.take k) ++ bs (xs.getD k ⟨#[]⟩) := by
  unfold fl
  rw [List.take_succ_eq_append_getElem h, List.flatMap_append, List.getD_eq_getElem?_getD, List.getElem?_eq_getElem h]
  simp
theorem fl_small (xs : List ByteArray) : ∀ b ∈ fl xs, b < 256 := by
  intro b hb
  obtain ⟨s, _, hs⟩ := List.mem_flatMap.1 hb
  exact bs_lt s b hs
theorem fl_len (xs : List ByteArray) (k : Nat) (hk : k ≤ xs.length) (h : ∀ i, i < k → (xs.getD i ⟨#[]⟩).size ≤ 16) : (fl (xs.take k)).length ≤ 16 * k := by
  induction k with
  | zero => simp [fl]
  | succ k ih =>
    rw [fl_snoc xs k (by omega), List.length_append, bs_length]
    have := ih (by omega) (fun i hi => h i (by omega))
    have := h k (by omega)
    omega

set_option maxRecDepth 100000 in
theorem hasBodies_yes (n : Int) (w : World) (h0 : 1 ≤ n) (h1 : n ≤ 10) : Calls Try.prog 112 #[.int .i64 n] w fun e w' => e = .returned (.bool true) ∧ w = w' := by
  go_enter Try.func112, Try.ntmps112
  go_wp2
  go_ret
  exact ⟨rfl, rfl⟩
set_option maxRecDepth 100000 in
theorem hasBodies_no (n : Int) (w : World) (h : n < 1 ∨ 10 < n) : Calls Try.prog 112 #[.int .i64 n] w fun e w' => e = .returned (.bool false) ∧ w = w' := by
  rcases h with h | h
  · go_enter Try.func112, Try.ntmps112
    go_wp2
    go_ret
    exact ⟨rfl, rfl⟩
  · have h0 : 1 ≤ n := by omega
    have hd : decide (n ≤ 10) = false := decide_eq_false (by omega)
    go_enter Try.func112, Try.ntmps112
    go_wp2
    go_ret
    exact ⟨rfl, rfl⟩
set_option maxRecDepth 100000 in
theorem isFull_calls (s : ByteArray) (w : World) (hs : s.size ≤ maxLen) : Calls Try.prog 155 #[.string s] w fun e w' => e = .returned (.bool (decide (s.size = 16))) ∧ w = w' := by
  unfold maxLen at hs
  by_cases h : s.size = 16
  · have h' : (s.size : Int) = 16 := by omega
    go_enter Try.func155, Try.ntmps155
    go_wp2
    go_ret
    exact ⟨by simp [h], rfl⟩
  · have h' : ¬ (s.size : Int) = 16 := by omega
    have h2 : ((s.size : Int) == 16) = false := by simp; omega
    go_enter Try.func155, Try.ntmps155
    go_wp2
    go_ret
    exact ⟨by simp [h], rfl⟩

set_option maxRecDepth 100000 in
set_option maxHeartbeats 400000 in
theorem allFull_calls (v : Value) (xs : List ByteArray) (w : World) (h : RdT w v xs) :
    Calls Try.prog 128 #[v, .func (.func 155) #[] #[]] w fun e w' => e = .returned (.bool (decide (∀ i, i < xs.length → (xs.getD i ⟨#[]⟩).size = 16))) ∧ w = w' := by
  obtain ⟨a, cap, rfl, h1, h2, h4, h3⟩ := h
  have hm : xs.length ≤ maxLen := by omega
  unfold maxLen at hm
  have H3 := hide h3
  have H4 := hide h4
  clear h3 h4 h2 h1
  go_enter Try.func128, Try.ntmps128
  go_wp2
  go_loop [9] (fun vi => ∃ k : Nat, k ≤ xs.length ∧ vi = .int .i64 k ∧ ∀ i, i < k → (xs.getD i ⟨#[]⟩).size = 16) (fun vi => xs.length - (intOf vi).toNat)
  case atStart => exact ⟨0, Nat.zero_le _, rfl, fun i hi => by omega⟩
  case round =>
    obtain ⟨k, hk, rfl, hall⟩ := hrel
    have HA := hide hall
    clear hall
    by_cases hlt : k < xs.length
    · rcases H3.out with h3 | ⟨b, off, rfl, hbs, hc⟩
      · subst h3; simp at hlt
      have hc1 := hc k hlt
      have hz : (xs.getD k ⟨#[]⟩).size ≤ maxLen := by
        apply H4.out
        rw [List.getD_eq_getElem?_getD, List.getElem?_eq_getElem hlt]
        exact List.getElem_mem hlt
      clear hc
      obtain ⟨z, hzz⟩ : ∃ z, z = xs.getD k ⟨#[]⟩ := ⟨_, rfl⟩
      rw [← hzz] at hc1 hz
      have HZ := hide hzz
      have hlt' : (k : Int) < (xs.length : Int) := by omega
      clear hzz
      go_wp2_with fail
      refine (isFull_calls z _ hz).mono ?_
      rintro e w1 ⟨rfl, rfl⟩
      by_cases h16 : z.size = 16
      · rw [decide_eq_true h16]
        have H16 := hide h16
        clear h16
        go_wp2
        go_round
        case rel =>
          refine ⟨k + 1, by omega, by go_num, fun i hi => ?_⟩
          by_cases e : i = k
          · subst e; rw [← HZ.out]; exact H16.out
          · exact HA.out i (by omega)
        case measure => simp [intOf]; omega
      · rw [decide_eq_false h16]
        have H16 := hide h16
        clear h16
        go_wp2
        go_ret
        refine ⟨ret_bool ?_, rfl⟩
        symm
        exact decide_eq_false (fun h => H16.out (by rw [HZ.out]; exact h k hlt))
    · obtain rfl : k = xs.length := by omega
      go_wp2
      go_ret
      exact ⟨ret_bool (decide_eq_true HA.out).symm, rfl⟩

theorem getD_take (xs : List ByteArray) (n i : Nat) (h : i < n) (hn : n ≤ xs.length) : (xs.take n).getD i ⟨#[]⟩ = xs.getD i ⟨#[]⟩ := by
  rw [List.getD_eq_getElem?_getD, List.getD_eq_getElem?_getD, List.getElem?_take, if_pos h]
theorem RdT.cut {w : World} {a : Option Addr} {cap n m : Nat} {xs : List ByteArray} (h : RdT w (.slice a m cap) xs) (hn : n ≤ xs.length) : RdT w (.slice a n cap) (xs.take n) := by
  obtain ⟨a', cap', hv, h1, h2, h4, h3⟩ := h
  simp only [Value.slice.injEq] at hv
  obtain ⟨rfl, _, rfl⟩ := hv
  have el : (xs.take n).length = n := by rw [List.length_take]; omega
  refine ⟨a, cap, by rw [el], by rw [el]; omega, h2, fun s hs => h4 s (List.mem_of_mem_take hs), ?_⟩
  rcases h3 with h3 | ⟨b, off, rfl, hlt, hc⟩
  · left; subst h3; simp
  · right
    refine ⟨b, off, rfl, hlt, fun i hi => ?_⟩
    rw [el] at hi
    rw [getD_take xs n i hi hn]
    exact hc i (by omega)
theorem gd_all (xs : List ByteArray) (h1 : 1 ≤ xs.length) : (∀ i, i < xs.length → gd xs i) ↔ ((1 ≤ (xs.getD (xs.length - 1) ⟨#[]⟩).size ∧ (xs.getD (xs.length - 1) ⟨#[]⟩).size ≤ 16) ∧ ∀ i, i < (xs.take (xs.length - 1)).length → ((xs.take (xs.length - 1)).getD i ⟨#[]⟩).size = 16) := by
  have el : (xs.take (xs.length - 1)).length = xs.length - 1 := by rw [List.length_take]; omega
  rw [el]
  constructor
  · intro h
    refine ⟨(h (xs.length - 1) (by omega)).1, fun i hi => ?_⟩
    rw [getD_take xs _ i hi (by omega)]
    exact (h i (by omega)).2 (by omega)
  · rintro ⟨h2, h3⟩ i hi
    by_cases e : i = xs.length - 1
    · subst e
      exact ⟨h2, fun h => by omega⟩
    · have := h3 i (by omega)
      rw [getD_take xs _ i (by omega) (by omega)] at this
      exact ⟨by omega, fun _ => this⟩

set_option maxRecDepth 100000 in
set_option maxHeartbeats 400000 in
theorem areBodies_calls (v : Value) (xs : List ByteArray) (w : World) (h : RdT w v xs) (h1 : 1 ≤ xs.length) :
    Calls Try.prog 144 #[v] w fun e w' => e = .returned (.bool (decide (∀ i, i < xs.length → gd xs i))) ∧ w = w' := by
  have R := hide h
  have IFF := hide (gd_all xs h1)
  obtain ⟨a, cap, rfl, hl1, h2, h4, h3⟩ := h
  have hm : xs.length ≤ maxLen := by omega
  unfold maxLen at hm
  have hz : (xs.getD (xs.length - 1) ⟨#[]⟩).size ≤ maxLen := by
    apply h4
    rw [List.getD_eq_getElem?_getD, List.getElem?_eq_getElem (by omega)]
    exact List.getElem_mem _
  unfold maxLen at hz
  rcases h3 with h3 | ⟨b, off, rfl, hbs, hc⟩
  · subst h3; simp at h1
  have hc1 := hc (xs.length - 1) (by omega)
  obtain ⟨z, hzz⟩ : ∃ z, z = xs.getD (xs.length - 1) ⟨#[]⟩ := ⟨_, rfl⟩
  rw [← hzz] at hc1 hz
  have HZ := hide hzz
  clear hzz hc h4 h2
  have t1 : ((xs.length : Int) - 1).toNat = xs.length - 1 := by omega
  have t2 : (0 : Int) ≤ (xs.length : Int) - 1 := by omega
  have t3 : (xs.length : Int) - 1 < (xs.length : Int) := by omega
  have t4 : (xs.length : Int) - 1 ≤ (cap : Int) := by omega
  by_cases hz1 : 1 ≤ z.size
  case neg =>
    have hf : decide (∀ i, i < xs.length → gd xs i) = false := decide_eq_false (fun h => hz1 (by rw [HZ.out]; exact (IFF.out.1 h).1.1))
    have HF := hide hf
    have u1 : ¬ (1 : Int) ≤ (z.size : Int) := by omega
    clear hf
    go_enter Try.func144, Try.ntmps144
    go_wp2
    go_ret
    exact ⟨ret_bool HF.out.symm, rfl⟩
  by_cases hz2 : z.size ≤ 16
  case neg =>
    have hf : decide (∀ i, i < xs.length → gd xs i) = false := decide_eq_false (fun h => hz2 (by rw [HZ.out]; exact (IFF.out.1 h).1.2))
    have HF := hide hf
    have u1 : (1 : Int) ≤ (z.size : Int) := by omega
    have u2 : ¬ (z.size : Int) ≤ 16 := by omega
    have u3 : decide ((z.size : Int) ≤ 16) = false := decide_eq_false u2
    clear hf
    go_enter Try.func144, Try.ntmps144
    go_wp2
    go_ret
    exact ⟨ret_bool HF.out.symm, rfl⟩
  have u1 : (1 : Int) ≤ (z.size : Int) := by omega
  have u2 : (z.size : Int) ≤ 16 := by omega
  have RC := hide (R.out.cut (n := xs.length - 1) (by omega))
  have hd : Hid (decide (∀ i, i < (xs.take (xs.length - 1)).length → ((xs.take (xs.length - 1)).getD i ⟨#[]⟩).size = 16) = decide (∀ i, i < xs.length → gd xs i)) := by
    show _ = _
    refine decide_eq_decide.2 ⟨fun h => IFF.out.2 ⟨by rw [← HZ.out]; exact ⟨hz1, hz2⟩, h⟩, fun h => (IFF.out.1 h).2⟩
  generalize decide (∀ i, i < xs.length → gd xs i) = y at hd ⊢
  go_enter Try.func144, Try.ntmps144
  go_wp2_with fail
  refine (allFull_calls _ _ _ RC.out).mono ?_
  rintro e w1 ⟨rfl, rfl⟩
  rw [hd.out]
  go_wp2
  go_ret
  exact ⟨rfl, rfl⟩

theorem strCells_bs (s : ByteArray) : Go.Lib.strCells s = (bs s).map u8v := by
  unfold Go.Lib.strCells bs
  rw [List.map_map]
  rfl
theorem infoU8 : (Try.prog.info? 5).map (fun i => (i.zero, i.size, i.bytes)) = some (some (.int .u8 0), 1, 1) := by kernel_rfl
theorem own_conv {w : World} {base g n cap : Nat} {l : List Nat} (h : w.ownsRow base 5 1 (.slice (some ⟨g, 0, none⟩) n cap) n (l.map u8v)) (hl : ∀ b ∈ l, b < 256) :
    (convert 121 9 (.slice (some ⟨g, 0, none⟩) n cap)).run Try.prog w = .ok (.string (ofN l)) w := by
  have hn : l.length = n := by have := h.1; simpa using this
  have := run_convert_bytes_back (P := Try.prog) w 121 9 5 ⟨g, 0, none⟩ cap (l.map UInt8.ofNat) Try.underlying121 Try.underlying5 Try.underlying9 (fun j hj => by
    have hj' : j < l.length := by simpa using hj
    have hadd : (⟨g, 0, none⟩ : Addr).add j = ⟨g, 0 + j, none⟩ := by unfold Addr.add; split <;> simp_all
    rw [hadd, Nat.zero_add, World.ownsRow.cellAt h j (by omega), List.getElem?_map, List.getElem?_eq_getElem hj', List.getElem_map]
    show some (u8v l[j]) = _
    unfold u8v
    rw [UInt8.toNat_ofNat', Nat.mod_eq_of_lt (hl _ (List.getElem_mem hj'))])
  rw [List.length_map, hn] at this
  exact this

set_option maxRecDepth 100000 in
set_option maxHeartbeats 800000 in
theorem joinBody_calls (v : Value) (xs : List ByteArray) (w : World) (h : RdT w v xs) :
    Calls Try.prog 113 #[v] w fun e w' => e = .returned (.tuple #[.string (jnbR xs).1, .bool (jnbR xs).2]) ∧ Below w.heap.size w w' := by
  have R := hide h
  obtain ⟨a, cap, rfl, hl1, h2, h4, h3⟩ := h
  have hm : xs.length ≤ maxLen := by omega
  unfold maxLen at hm
  by_cases hn : 1 ≤ xs.length ∧ xs.length ≤ 10
  case neg =>
    have er : jnbR xs = (⟨#[]⟩, false) := if_neg (fun h => hn h.1)
    rw [er]
    clear er h3 h4
    go_enter Try.func113, Try.ntmps113
    go_wp2_with fail
    refine (hasBodies_no _ _ (by omega)).mono ?_
    rintro e w1 ⟨rfl, rfl⟩
    go_wp2
    go_ret2
    exact ⟨rfl, Below.refl _ _⟩
  obtain ⟨hn1, hn2⟩ := hn
  by_cases hg : ∀ i, i < xs.length → gd xs i
  case neg =>
    have er : jnbR xs = (⟨#[]⟩, false) := if_neg (fun h => hg h.2)
    have hd : Hid (decide (∀ i, i < xs.length → gd xs i) = false) := decide_eq_false hg
    rw [er]
    clear er h3 h4 hg
    go_enter Try.func113, Try.ntmps113
    go_wp2_with fail
    refine (hasBodies_yes _ _ (by omega) (by omega)).mono ?_
    rintro e w1 ⟨rfl, rfl⟩
    go_wp2_with fail
    refine (areBodies_calls _ xs _ R.out hn1).mono ?_
    rintro e w1 ⟨rfl, rfl⟩
    rw [hd.out]
    go_wp2
    go_ret2
    exact ⟨rfl, Below.refl _ _⟩
  have er : jnbR xs = (ofN (fl xs), true) := if_pos ⟨⟨hn1, hn2⟩, hg⟩
  have hd : Hid (decide (∀ i, i < xs.length → gd xs i) = true) := decide_eq_true hg
  have hF : (fl9 xs).length ≤ 160 := by
    have := fl_len xs xs.length (Nat.le_refl _) (fun i hi => (hg i hi).1.2)
    rw [List.take_length] at this
    show (fl xs).length ≤ 160
    omega
  have HF := hide hF
  have HS : Hid (∀ i, i < xs.length → (xs.getD i ⟨#[]⟩).size ≤ 1048576) := fun i hi => Nat.le_trans (hg i hi).1.2 (by decide)
  rw [er]
  clear er h3 h4 hg hF
  go_enter Try.func113, Try.ntmps113
  go_wp2_with fail
  refine (hasBodies_yes _ _ (by omega) (by omega)).mono ?_
  rintro e w1 ⟨rfl, rfl⟩
  go_wp2_with fail
  refine (areBodies_calls _ xs _ R.out hn1).mono ?_
  rintro e w1 ⟨rfl, rfl⟩
  rw [hd.out]
  go_wp2_with fail
  refine (joinTexts_calls _ xs _ R.out (by omega) (Nat.le_trans HF.out (by decide)) HS.out).mono ?_
  rintro e w1 ⟨rfl, b1⟩
  go_wp2
  go_ret2
  exact ⟨rfl, b1⟩


set_option maxRecDepth 100000 in
set_option maxHeartbeats 1600000 in
theorem sJoinBody_calls (v : Value) (xs : List ByteArray) (w : World) (h : RdT w v xs) :
    Calls Try.prog 111 #[v] w fun e w' => e = .returned (.tuple #[.string (jnbR xs).1, .bool (jnbR xs).2]) ∧ Below w.heap.size w w' := by
  obtain ⟨a, cap, rfl, hl1, h2, h4, h3⟩ := h
  have hm : xs.length ≤ maxLen := by omega
  unfold maxLen at hm
  by_cases hn : 1 ≤ xs.length ∧ xs.length ≤ 10
  case neg =>
    have er : jnbR xs = (⟨#[]⟩, false) := if_neg (fun h => hn h.1)
    rw [er]
    clear er h3 h4
    go_enter Try.func111, Try.ntmps111
    go_wp2_with fail
    refine (l1In_no _ _ _ _ (by omega)).mono ?_
    rintro e w1 ⟨rfl, rfl⟩
    go_wp2
    go_ret2
    exact ⟨rfl, Below.refl _ _⟩
  obtain ⟨hn1, hn2⟩ := hn
  have YES : Hid ((∀ i, i < xs.length → gd xs i) → jnbR xs = (ofN (fl xs), true)) := fun hg => if_pos ⟨⟨hn1, hn2⟩, hg⟩
  have NO : Hid (∀ k, k < xs.length → ¬ gd xs k → jnbR xs = (⟨#[]⟩, false)) := fun k hk hng => if_neg (fun h => hng (h.2 k hk))
  have H3 := hide h3
  have H4 := hide h4
  clear h3 h4
  go_enter Try.func111, Try.ntmps111
  go_wp2_with fail
  refine (l1In_yes _ _ _ _ (by omega) (by omega)).mono ?_
  rintro e w1 ⟨rfl, rfl⟩
  go_wp2
  go_loop [4, 13] (fun vt vi => ∃ (k : Nat), k ≤ xs.length ∧ vi = .int .i64 k ∧ vt = .string (ofN (fl (xs.take k))) ∧ ∀ i, i < k → gd xs i) (fun _ vi => xs.length - (intOf vi).toNat)
  case atStart => exact ⟨0, Nat.zero_le _, rfl, rfl, fun i hi => by omega⟩
  case round =>
    obtain ⟨k, hk, rfl, rfl, hall⟩ := hrel
    have HA := hide hall
    clear hall
    have hfl : (fl (xs.take k)).length ≤ 160 := by
      have := fl_len xs k hk (fun i hi => (HA.out i hi).1.2)
      omega
    by_cases hlt : k < xs.length
    · rcases H3.out with h3 | ⟨b, off, rfl, hbs, hc⟩
      · subst h3; simp at hlt
      have hc1 := hc k hlt
      have hz : (xs.getD k ⟨#[]⟩).size ≤ maxLen := by
        apply H4.out
        rw [List.getD_eq_getElem?_getD, List.getElem?_eq_getElem hlt]
        exact List.getElem_mem hlt
      unfold maxLen at hz
      have hsn := fl_snoc xs k hlt
      have hgd : gd xs k ↔ ((1 ≤ (xs.getD k ⟨#[]⟩).size ∧ (xs.getD k ⟨#[]⟩).size ≤ 16) ∧ (k + 1 < xs.length → (xs.getD k ⟨#[]⟩).size = 16)) := Iff.rfl
      obtain ⟨z, hzz⟩ : ∃ z, z = xs.getD k ⟨#[]⟩ := ⟨_, rfl⟩
      rw [← hzz] at hc1 hz hsn hgd
      have HSN := hide hsn
      have HGD := hide hgd
      have hlt' : (k : Int) < (xs.length : Int) := by omega
      clear hzz hc hsn hgd
      have hsz : (ofN (fl (xs.take k))).size = (fl (xs.take k)).length := ofN_size _
      by_cases z0 : z = ⟨#[]⟩
      · have ER := hide (NO.out k hlt (fun h => by have := (HGD.out.1 h).1.1; rw [z0] at this; exact absurd this (by decide)))
        subst z0
        clear hsz
        go_wp2
        go_ret2
        exact ⟨by rw [ER.out]; rfl, Below.refl _ _⟩
      have hz1 : 1 ≤ z.size := by
        rcases Nat.eq_zero_or_pos z.size with h | h
        · exact absurd (bs_inj (by rw [List.eq_nil_of_length_eq_zero ((bs_length z).trans h)]; rfl)) z0
        · exact h
      have z0l : ¬ z.toList = [] := by
        intro h
        rw [ByteArray.toList_eq] at h
        have : z.data.toList.length = 0 := by rw [h]; rfl
        rw [Array.length_toList] at this
        have e : z.size = z.data.size := rfl
        omega
      have z0b : (z.toList == []) = false := by simpa using z0l
      by_cases z16 : z.size ≤ 16
      case neg =>
        have ER := hide (NO.out k hlt (fun h => z16 (HGD.out.1 h).1.2))
        have u1 : (16 : Int) < (z.size : Int) := by omega
        clear hsz z0
        go_wp2
        go_ret2
        exact ⟨by rw [ER.out]; rfl, Below.refl _ _⟩
      have u1 : ¬ (16 : Int) < (z.size : Int) := by omega
      have u1b : decide ((16 : Int) < (z.size : Int)) = false := decide_eq_false u1
      have hadd := fun W : World => run_string_add_sum (P := Try.prog) (w := W) (ofN (fl (xs.take k))) z (by omega)
      by_cases hlast : k + 1 < xs.length
      · have u2 : (k : Int) < (xs.length : Int) - 1 := by omega
        by_cases zf : z.size < 16
        · have ER := hide (NO.out k hlt (fun h => by have := (HGD.out.1 h).2 hlast; omega))
          have u3 : (z.size : Int) < 16 := by omega
          clear hsz z0 hadd
          go_wp2
          go_ret2
          exact ⟨by rw [ER.out]; rfl, Below.refl _ _⟩
        · have u3 : ¬ (z.size : Int) < 16 := by omega
          have u3b : decide ((z.size : Int) < 16) = false := decide_eq_false u3
          have GK := hide (HGD.out.2 ⟨⟨hz1, z16⟩, fun _ => by omega⟩)
          clear hsz z0
          go_wp2
          go_round
          case rel =>
            refine ⟨k + 1, by omega, by go_num, ?_, fun i hi => ?_⟩
            · rw [HSN.out, ← ofN_append, ofN_bs]
            · by_cases e : i = k
              · subst e; exact GK.out
              · exact HA.out i (by omega)
          case measure => simp [intOf]; omega
      · have u2 : ¬ (k : Int) < (xs.length : Int) - 1 := by omega
        have u2b : decide ((k : Int) < (xs.length : Int) - 1) = false := decide_eq_false u2
        have GK := hide (HGD.out.2 ⟨⟨hz1, z16⟩, fun h => absurd h hlast⟩)
        clear hsz z0
        go_wp2
        go_round
        case rel =>
          refine ⟨k + 1, by omega, by go_num, ?_, fun i hi => ?_⟩
          · rw [HSN.out, ← ofN_append, ofN_bs]
          · by_cases e : i = k
            · subst e; exact GK.out
            · exact HA.out i (by omega)
        case measure => simp [intOf]; omega
    · obtain rfl : k = xs.length := by omega
      have ER := hide (YES.out HA.out)
      rw [List.take_length]
      go_wp2
      go_ret2
      exact ⟨by rw [ER.out]; rfl, Below.refl _ _⟩
end Go.Proofs.Ytpgmocogffolaaa
