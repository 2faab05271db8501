/- The law MarksSubsets' walk. -/
import Derived.Test.YtacfamelnaocmaaDoorMarksRankLaw
namespace Go.Proofs.YtacfamelnaocmaaDoor
open Go.RowKit Go.Shelf
namespace MM
theorem allOf_bit (n : Int) (h0 : 0 ≤ n) (h1 : n < 64) (j : Nat) : (allOf n).toNat.testBit j = decide ((j : Int) < n) := by
  unfold allOf
  by_cases h : n < 1
  · rw [if_pos h]; simp; omega
  · rw [if_neg h, if_neg (by omega), Int.toNat_natCast, Nat.testBit_two_pow_sub_one]
    congr 1
    exact propext (by omega)
theorem filter_lt_take {l : List Nat} (hl : l.Pairwise (· < ·)) : ∀ {k n : Nat}, l[k]? = some n → (l.filter fun i => decide (i < n)) = l.take k := by
  induction l with
  | nil => intro k n h; simp at h
  | cons a l ih =>
    obtain ⟨h1, h2⟩ := List.pairwise_cons.1 hl
    intro k n h
    cases k with
    | zero =>
      simp at h; subst h
      rw [List.take_zero, List.filter_eq_nil_iff]
      intro y hy
      rcases List.mem_cons.1 hy with rfl | hy
      · simp
      · have := h1 y hy; simp; omega
    | succ k =>
      simp at h
      have hz := h1 n (List.mem_of_getElem? h)
      rw [List.filter_cons, if_pos (by simpa using hz), ih h2 h, List.take_succ_cons]
theorem els_and_all (x : Nat) (n : Nat) (hn : n < 64) : els (x &&& (allOf n).toNat) = (els x).filter fun i => decide (i < n) := by
  unfold els
  rw [List.filter_filter]
  apply List.filter_congr
  intro i hi
  rw [Nat.testBit_and, allOf_bit n (by omega) (by omega), Bool.and_comm]
  simp
/-- The set that the law goes on with has at most ten elements. -/
theorem cut_ten (x : Nat) (n : Nat) (h : pickOf (els x) 10 = some n) : (els (x &&& (allOf n).toNat)).length ≤ 10 := by
  have hs := pickOf_some h
  have hm := List.mem_of_getElem? hs.2.2
  rw [els_and_all x n (els_lt hm), filter_lt_take (els_sorted x) hs.2.2, List.length_take]
  have : (10 : Int).toNat = 10 := rfl
  omega
theorem short_ten (x : Nat) (h : pickOf (els x) 10 = none) : (els x).length ≤ 10 := by
  have := pickOf_none' h
  unfold lenOf at this
  omega

/-- The places in l of a set's elements. -/
def pext : List Nat → Nat → Nat
  | [], _ => 0
  | b :: bs, o => (if o.testBit b then 1 else 0) + 2 * pext bs o
theorem pext_lt : ∀ (l : List Nat) (o : Nat), pext l o < 2 ^ l.length
  | [], _ => by simp [pext]
  | b :: bs, o => by
    have := pext_lt bs o
    rw [pext, List.length_cons, Nat.pow_succ]
    split <;> omega
theorem pdep_pext : ∀ (l : List Nat) (o j : Nat), (pdep l (pext l o)).testBit j = (decide (j ∈ l) && o.testBit j)
  | [], o, j => by simp [pdep]
  | b :: bs, o, j => by
    have e1 : pext (b :: bs) o % 2 = if o.testBit b then 1 else 0 := by rw [pext]; split <;> omega
    have e2 : pext (b :: bs) o / 2 = pext bs o := by rw [pext]; split <;> omega
    rw [pdep_bit, e1, e2, pdep_pext bs o j]
    by_cases h : b = j
    · subst h; cases o.testBit b <;> simp
    · have : j ≠ b := fun e => h e.symm
      simp [h, this]
theorem pdep_hit (s o : Nat) (hs64 : s < 2 ^ 64) : pdep (els s) (pext (els s) (o &&& s)) = o &&& s := by
  apply Nat.eq_of_testBit_eq
  intro j
  rw [pdep_pext, Nat.testBit_and]
  by_cases hj : j < 64
  · cases hs : s.testBit j
    · simp
    · simp [mem_els.2 ⟨hj, hs⟩]
  · have hm : j ∉ els s := fun h => hj (els_lt h)
    rw [Nat.testBit_lt_two_pow (Nat.lt_of_lt_of_le hs64 (Nat.pow_le_pow_right (by omega) (by omega)))]
    simp [hm]
theorem pdep_diff (s n : Nat) (hs : s < 2 ^ 64) : pdep (els s) n &&& (18446744073709551615 - s) = 0 := by
  apply Nat.eq_of_testBit_eq
  intro j
  rw [Nat.testBit_and, show 18446744073709551615 - s = 2 ^ 64 - (s + 1) by omega, Nat.testBit_two_pow_sub_succ hs, Nat.zero_testBit]
  cases hp : (pdep (els s) n).testBit j
  · rfl
  · rw [(mem_els.1 (pdep_sub hp)).2]; simp
end MM

/-- What the law's second half needs of the set it goes on with. -/
structure SubFacts (y : Int) (L N : Nat) : Prop where
  y0 : 0 ≤ y
  y1 : y < 18446744073709551616
  len : (MM.els y.toNat).length = L
  le : L ≤ 10
  pow : 2 ^ L = N

set_option maxRecDepth 100000 in
set_option maxHeartbeats 4000000 in
theorem subLaw_any (x o : Int) (h0 : 0 ≤ x) (h1 : x < 18446744073709551616) (o0 : 0 ≤ o) (o1 : o < 18446744073709551616) (w : World) (hT : Tab w) :
    Calls Tryd.prog 8 #[.int .u64 x, .int .u64 o] w fun e w' => e = .returned (.bool true) ∧ Below w.heap.size w w' := by
  have hp := hT.pos
  have CP := fun w hT => pick_any x 10 h0 h1 w hT
  -- the set behind the first test, on both ways
  obtain ⟨y, L, N, K, b, F, hy, hCP⟩ : ∃ (y : Int) (L N : Nat) (K : Int) (b : Bool), SubFacts y L N ∧
      ((b = true ∧ bits BinOp.and IntKind.u64 x (allOf K) = y) ∨ (b = false ∧ x = y)) ∧
      ∀ w, Tab w → Calls Tryd.prog 24 #[.int .u64 x, .int .i64 10] w fun e w' => e = .returned (.tuple #[.int .i64 K, .bool b]) ∧ Below w.heap.size w w' := by
    cases hpk : pickOf (MM.els x.toNat) 10 with
    | none =>
      rw [hpk] at CP
      exact ⟨x, _, _, 0, false, ⟨h0, h1, rfl, MM.short_ten _ hpk, rfl⟩, .inr ⟨rfl, rfl⟩, CP⟩
    | some n =>
      rw [hpk] at CP
      have hb := allOf_bd n
      have e := u64_and x (allOf n) h0 h1 hb.1 hb.2
      have hlt : x.toNat &&& (allOf n).toNat < 2 ^ 64 := Nat.lt_of_le_of_lt Nat.and_le_left (by omega)
      refine ⟨bits BinOp.and IntKind.u64 x (allOf n), _, _, n, true, ⟨by rw [e]; omega, by rw [e]; omega, rfl, ?_, rfl⟩, .inl ⟨rfl, rfl⟩, CP⟩
      rw [e, Int.toNat_natCast]
      exact MM.cut_ten _ _ hpk
  obtain ⟨y0, y1, hL, hLe, hN⟩ := F
  have hN10 : N ≤ 1024 := by rw [← hN]; exact Nat.pow_le_pow_right (by decide) hLe (n := 2)
  have hNpos : 0 < N := by rw [← hN]; exact Nat.two_pow_pos L
  have hwr := wrap_pow L (by omega)
  rw [hN] at hwr
  have CL := fun w hT => len_any y y0 y1 w hT
  have hlo : lenOf (MM.els y.toNat) = (L : Int) := by unfold lenOf; rw [hL]
  rw [hlo] at CL
  have C1 := fun w hT => subsets_ok y N y0 y1 (by omega) L N hL hN (by omega) w hT
  have C2 := fun w hT => subsets_many y ((N : Int) - 1) y0 y1 (by omega) (by omega) (by rw [hL, hN]; omega) w hT
  have C3 := fun w => subsets_arg y 65537 (by decide) w
  -- the place of the other set's part
  obtain ⟨k0, hk0, hhit⟩ : ∃ k0, k0 < N ∧ (MM.pdep (MM.els y.toNat) k0 : Int) = bits BinOp.and IntKind.u64 o y := by
    refine ⟨MM.pext (MM.els y.toNat) (o.toNat &&& y.toNat), ?_, ?_⟩
    · have := MM.pext_lt (MM.els y.toNat) (o.toNat &&& y.toNat)
      rwa [hL, hN] at this
    · rw [u64_and o y o0 o1 y0 y1, MM.pdep_hit y.toNat o.toNat (by omega)]
  have hmono := fun (i j : Nat) (h : i < j) (hj : j < N) => MM.pdep_mono (MM.els y.toNat) (MM.els_sorted _) i j h (by rw [hL, hN]; exact hj)
  have hdiff := fun (i : Nat) => (by
    have hpl := MM.pdep_lt y.toNat i
    rw [u64_andNot _ y (by omega) (by omega) y0 y1, Int.toNat_natCast, MM.pdep_diff y.toNat i (by omega)]
    rfl : bits BinOp.andNot IntKind.u64 (MM.pdep (MM.els y.toNat) i : Int) y = 0)
  replace CL := Lib.hid CL
  replace C1 := Lib.hid C1
  replace C2 := Lib.hid C2
  replace C3 := Lib.hid C3
  replace hCP := Lib.hid hCP
  replace hmono := Lib.hid hmono
  replace hdiff := Lib.hid hdiff
  replace hhit := Lib.hid hhit
  clear CP hL hN hlo
  rcases hy with ⟨rfl, hy⟩ | ⟨rfl, hy⟩
  · go_enter Tryd.func8, Tryd.ntmps8
    go_wp2_with fail
    refine (hCP.out _ hT).mono ?_
    rintro e w1 ⟨rfl, hB⟩
    go_wp2_with fail
    refine (all_any K _).mono ?_
    rintro e w2 ⟨rfl, rfl⟩
    go_wp2_with fail
    refine (CL.out _ (hT.below hB hp)).mono ?_
    rintro e w2 ⟨rfl, hb⟩
    replace hB := hB.trans (hb.mono hB.size)
    clear hb
    go_wp2_with fail
    refine (C1.out _ (hT.below hB hp)).mono ?_
    rintro e w3 ⟨v, rfl, hrow, hb⟩
    replace hB := hB.trans (hb.mono hB.size)
    clear hb
    obtain ⟨a1, c1, hv⟩ := ownsRow_slice hrow
    subst hv
    have hsz3 : ∀ k, (Value.slice a1 N c1).ownBlock = some k → k < w3.heap.size := fun k hk => (hrow.lt k hk).2
    replace hsz3 := Lib.hid hsz3
    go_wp2_with fail
    refine (C2.out _ (hT.below hB hp)).mono ?_
    rintro e w4 ⟨rfl, hW⟩
    replace hB := hB.trans (hW.mono hB.size)
    go_wp2_with fail
    refine (C3.out _).mono ?_
    rintro e w5 ⟨rfl, rfl⟩
    have tN : ((N : Int) != (N : Int)) = false := by simp
    go_wp2
    -- the cells of the list, in the world that the loop reads
    have hcells : ∀ k, k < N → ∃ b, a1 = some ⟨b, 0, none⟩ ∧ w4.cell? ⟨b, k, none⟩ = some (.int .u64 (MM.pdep (MM.els y.toNat) k : Int)) := by
      intro k hk
      have hrow' := hrow
      rcases hrow.2 with ⟨_, hz⟩ | ⟨g, cap, cur, hv, hg, hheap, _⟩
      · omega
      · obtain ⟨rfl, _, rfl⟩ := Value.slice.inj hv
        refine ⟨g, rfl, ?_⟩
        rw [hW.cell (p := ⟨g, k, none⟩) (Array.getElem?_eq_some_iff.1 hheap).1, hrow'.cellAt k (by omega)]
        simp [subsV, subV, hk]
    replace hcells := Lib.hid hcells
    clear hrow hW
    go_loop [14, 15, 16, 73] (fun fd _ _ ix => ∃ k : Nat, k ≤ N ∧ ix = .int .i64 k ∧ fd = .bool (decide (k0 < k))) (fun _ _ _ ix => N - (intOf ix).toNat)
    case atStart => exact ⟨0, Nat.zero_le _, rfl, by simp⟩
    case round =>
      obtain ⟨k, hk, rfl, rfl⟩ := hrel
      by_cases hlt : k < N
      · obtain ⟨b, rfl, hck⟩ := hcells.out k hlt
        have hd := hdiff.out k
        have hprev : 0 < k → ∃ z : Int, w4.cell? ⟨b, k - 1, none⟩ = some (.int .u64 z) ∧ z < (MM.pdep (MM.els y.toNat) k : Int) := by
          intro h0k
          obtain ⟨b', hb', hc'⟩ := hcells.out (k - 1) (by omega)
          cases hb'
          have := hmono.out (k - 1) k (by omega) hlt
          exact ⟨_, hc', by omega⟩
        have hcmp : (k < k0 ∧ ((MM.pdep (MM.els y.toNat) k : Int) == bits BinOp.and IntKind.u64 o y) = false) ∨ (k = k0 ∧ ((MM.pdep (MM.els y.toNat) k : Int) == bits BinOp.and IntKind.u64 o y) = true) ∨ k0 < k := by
          rcases Nat.lt_trichotomy k k0 with h | h | h
          · left
            have := hmono.out k k0 h hk0
            refine ⟨h, ?_⟩
            rw [← hhit.out]; simp; omega
          · right; left
            subst h
            exact ⟨rfl, by rw [hhit.out]; simp⟩
          · exact .inr (.inr h)
        generalize (MM.pdep (MM.els y.toNat) k : Int) = z at hck hd hprev hcmp
        have hstep : ∀ r : Bool, (k < k0 ∧ r = false) ∨ (k = k0 ∧ r = true) → Value.bool r = Value.bool (decide (k0 < k + 1)) := by
          rintro r (⟨h, rfl⟩ | ⟨h, rfl⟩)
          · rw [decide_eq_false (by omega)]
          · rw [decide_eq_true (by omega)]
        replace hstep := Lib.hid hstep
        have hfd : (k ≤ k0 ∧ decide (k0 < k) = false) ∨ (k0 < k ∧ decide (k0 < k) = true) := by
          by_cases h : k0 < k
          · exact .inr ⟨h, by simpa using h⟩
          · exact .inl ⟨by omega, by simpa using h⟩
        have hk0' : (0 < k ∧ ∃ z' : Int, w4.cell? ⟨b, k - 1, none⟩ = some (.int .u64 z') ∧ decide (z ≤ z') = false ∧ decide (0 < k) = true) ∨ decide (0 < k) = false := by
          by_cases h : 0 < k
          · obtain ⟨z', hc', hz'⟩ := hprev h
            exact .inl ⟨h, z', hc', by simpa using hz', by simpa using h⟩
          · exact .inr (by simpa using h)
        clear hprev
        rcases hk0' with ⟨hkp, z', hck1, t2, t1⟩ | t1
        all_goals
          rcases hfd with ⟨hle, t0⟩ | ⟨hgt, t0⟩
          · rw [t0]
            rcases hcmp with ⟨hlt0, t3⟩ | ⟨heq, t3⟩ | hgt
            · go_wp2
              go_round
              case rel => exact ⟨k + 1, by omega, by go_num, hstep.out false (.inl ⟨hlt0, rfl⟩)⟩
              case measure => simp [intOf]; omega
            · replace heq := Lib.hid heq
              go_wp2
              go_round
              case rel => exact ⟨k + 1, by omega, by go_num, hstep.out true (.inr ⟨heq.out, rfl⟩)⟩
              case measure => simp [intOf]; omega
            · omega
          · rw [t0]
            clear hcmp
            go_wp2
            go_round
            case rel => exact ⟨k + 1, by omega, by go_num, by rw [decide_eq_true (show k0 < k + 1 by omega)]⟩
            case measure => simp [intOf]; omega
      · obtain rfl : k = N := by omega
        have t0 : decide (k0 < k) = true := by simpa using hk0
        rw [t0]
        go_wp2_with fail
        refine (awake_any _ (hT.below hB hp)).mono ?_
        rintro e w6 ⟨rfl, hb⟩
        replace hB := hB.trans (hb.mono hB.size)
        clear hb
        go_wp2
        go_ret
        exact ⟨rfl, hB⟩
  · subst hy
    go_enter Tryd.func8, Tryd.ntmps8
    go_wp2_with fail
    refine (hCP.out _ hT).mono ?_
    rintro e w1 ⟨rfl, hB⟩
    go_wp2_with fail
    refine (CL.out _ (hT.below hB hp)).mono ?_
    rintro e w2 ⟨rfl, hb⟩
    replace hB := hB.trans (hb.mono hB.size)
    clear hb
    go_wp2_with fail
    refine (C1.out _ (hT.below hB hp)).mono ?_
    rintro e w3 ⟨v, rfl, hrow, hb⟩
    replace hB := hB.trans (hb.mono hB.size)
    clear hb
    obtain ⟨a1, c1, hv⟩ := ownsRow_slice hrow
    subst hv
    have hsz3 : ∀ k, (Value.slice a1 N c1).ownBlock = some k → k < w3.heap.size := fun k hk => (hrow.lt k hk).2
    replace hsz3 := Lib.hid hsz3
    go_wp2_with fail
    refine (C2.out _ (hT.below hB hp)).mono ?_
    rintro e w4 ⟨rfl, hW⟩
    replace hB := hB.trans (hW.mono hB.size)
    go_wp2_with fail
    refine (C3.out _).mono ?_
    rintro e w5 ⟨rfl, rfl⟩
    have tN : ((N : Int) != (N : Int)) = false := by simp
    go_wp2
    -- the cells of the list, in the world that the loop reads
    have hcells : ∀ k, k < N → ∃ b, a1 = some ⟨b, 0, none⟩ ∧ w4.cell? ⟨b, k, none⟩ = some (.int .u64 (MM.pdep (MM.els x.toNat) k : Int)) := by
      intro k hk
      have hrow' := hrow
      rcases hrow.2 with ⟨_, hz⟩ | ⟨g, cap, cur, hv, hg, hheap, _⟩
      · omega
      · obtain ⟨rfl, _, rfl⟩ := Value.slice.inj hv
        refine ⟨g, rfl, ?_⟩
        rw [hW.cell (p := ⟨g, k, none⟩) (Array.getElem?_eq_some_iff.1 hheap).1, hrow'.cellAt k (by omega)]
        simp [subsV, subV, hk]
    replace hcells := Lib.hid hcells
    clear hrow hW
    go_loop [14, 15, 16, 73] (fun fd _ _ ix => ∃ k : Nat, k ≤ N ∧ ix = .int .i64 k ∧ fd = .bool (decide (k0 < k))) (fun _ _ _ ix => N - (intOf ix).toNat)
    case atStart => exact ⟨0, Nat.zero_le _, rfl, by simp⟩
    case round =>
      obtain ⟨k, hk, rfl, rfl⟩ := hrel
      by_cases hlt : k < N
      · obtain ⟨b, rfl, hck⟩ := hcells.out k hlt
        have hd := hdiff.out k
        have hprev : 0 < k → ∃ z : Int, w4.cell? ⟨b, k - 1, none⟩ = some (.int .u64 z) ∧ z < (MM.pdep (MM.els x.toNat) k : Int) := by
          intro h0k
          obtain ⟨b', hb', hc'⟩ := hcells.out (k - 1) (by omega)
          cases hb'
          have := hmono.out (k - 1) k (by omega) hlt
          exact ⟨_, hc', by omega⟩
        have hcmp : (k < k0 ∧ ((MM.pdep (MM.els x.toNat) k : Int) == bits BinOp.and IntKind.u64 o x) = false) ∨ (k = k0 ∧ ((MM.pdep (MM.els x.toNat) k : Int) == bits BinOp.and IntKind.u64 o x) = true) ∨ k0 < k := by
          rcases Nat.lt_trichotomy k k0 with h | h | h
          · left
            have := hmono.out k k0 h hk0
            refine ⟨h, ?_⟩
            rw [← hhit.out]; simp; omega
          · right; left
            subst h
            exact ⟨rfl, by rw [hhit.out]; simp⟩
          · exact .inr (.inr h)
        generalize (MM.pdep (MM.els x.toNat) k : Int) = z at hck hd hprev hcmp
        have hstep : ∀ r : Bool, (k < k0 ∧ r = false) ∨ (k = k0 ∧ r = true) → Value.bool r = Value.bool (decide (k0 < k + 1)) := by
          rintro r (⟨h, rfl⟩ | ⟨h, rfl⟩)
          · rw [decide_eq_false (by omega)]
          · rw [decide_eq_true (by omega)]
        replace hstep := Lib.hid hstep
        have hfd : (k ≤ k0 ∧ decide (k0 < k) = false) ∨ (k0 < k ∧ decide (k0 < k) = true) := by
          by_cases h : k0 < k
          · exact .inr ⟨h, by simpa using h⟩
          · exact .inl ⟨by omega, by simpa using h⟩
        have hk0' : (0 < k ∧ ∃ z' : Int, w4.cell? ⟨b, k - 1, none⟩ = some (.int .u64 z') ∧ decide (z ≤ z') = false ∧ decide (0 < k) = true) ∨ decide (0 < k) = false := by
          by_cases h : 0 < k
          · obtain ⟨z', hc', hz'⟩ := hprev h
            exact .inl ⟨h, z', hc', by simpa using hz', by simpa using h⟩
          · exact .inr (by simpa using h)
        clear hprev
        rcases hk0' with ⟨hkp, z', hck1, t2, t1⟩ | t1
        all_goals
          rcases hfd with ⟨hle, t0⟩ | ⟨hgt, t0⟩
          · rw [t0]
            rcases hcmp with ⟨hlt0, t3⟩ | ⟨heq, t3⟩ | hgt
            · go_wp2
              go_round
              case rel => exact ⟨k + 1, by omega, by go_num, hstep.out false (.inl ⟨hlt0, rfl⟩)⟩
              case measure => simp [intOf]; omega
            · replace heq := Lib.hid heq
              go_wp2
              go_round
              case rel => exact ⟨k + 1, by omega, by go_num, hstep.out true (.inr ⟨heq.out, rfl⟩)⟩
              case measure => simp [intOf]; omega
            · omega
          · rw [t0]
            clear hcmp
            go_wp2
            go_round
            case rel => exact ⟨k + 1, by omega, by go_num, by rw [decide_eq_true (show k0 < k + 1 by omega)]⟩
            case measure => simp [intOf]; omega
      · obtain rfl : k = N := by omega
        have t0 : decide (k0 < k) = true := by simpa using hk0
        rw [t0]
        go_wp2_with fail
        refine (awake_any _ (hT.below hB hp)).mono ?_
        rintro e w6 ⟨rfl, hb⟩
        replace hB := hB.trans (hb.mono hB.size)
        clear hb
        go_wp2
        go_ret
        exact ⟨rfl, hB⟩
end Go.Proofs.YtacfamelnaocmaaDoor
