/- The law MarksAll's walk. -/
import Derived.Test.YtacfamelnaocmaaDoorRegionBelow
import Derived.Deep.RegionLaw
import Derived.Deep.RegionLawGrows
import Derived.Test.YtacfamelnaocmaaDoorAppendNum
import Derived.Deep.DeepMust
import Derived.Test.YtacfamelnaocmaaDoorMarksSubLaw
namespace Go.Proofs.YtacfamelnaocmaaDoor
open Go.RowKit Go.Shelf Go.BigFrame
namespace MM
theorem range_filter_lt (k : Nat) : ∀ m : Nat, ((List.range m).filter fun i => decide (i < k)).length = min k m
  | 0 => by simp
  | m + 1 => by
    rw [List.range_succ, List.filter_append, List.length_append, range_filter_lt k m]
    by_cases h : m < k
    · simp [h]; omega
    · simp [h]; omega
theorem allOf_bit' (n : Int) (j : Nat) : (allOf n).toNat.testBit j = (decide ((j : Int) < n) && decide (j < 64)) := by
  by_cases h : n < 1
  · unfold allOf; rw [if_pos h]; simp; omega
  · by_cases h2 : 64 ≤ n
    · unfold allOf; rw [if_neg h, if_pos h2]
      have e : (18446744073709551615 : Int).toNat = 2 ^ 64 - 1 := by decide
      rw [e, Nat.testBit_two_pow_sub_one]
      by_cases h3 : j < 64
      · simp [h3]; omega
      · simp [h3]
    · rw [allOf_bit n (by omega) (by omega)]
      by_cases h3 : j < 64
      · simp [h3]
      · simp [h3]; omega
theorem len_all (n : Int) : lenOf (els (allOf n).toNat) = min (max n 0) 64 := by
  have e : els (allOf n).toNat = (List.range 64).filter fun i => decide (i < n.toNat) := by
    unfold els
    apply List.filter_congr
    intro i hi
    rw [allOf_bit']
    have := List.mem_range.1 hi
    by_cases h : (i : Int) < n
    · rw [decide_eq_true h, decide_eq_true (show i < n.toNat by omega)]; simp; omega
    · rw [decide_eq_false h, decide_eq_false (show ¬ i < n.toNat by omega)]; simp
  unfold lenOf
  rw [e, range_filter_lt]
  omega
theorem all_succ (n : Int) (h0 : 0 ≤ n) (h1 : n < 64) : bits BinOp.or IntKind.u64 (allOf n) (IntKind.u64.wrap (2 ^ n.toNat)) = allOf (n + 1) := by
  have hp : 2 ^ n.toNat < 2 ^ 64 := Nat.pow_lt_pow_right (by omega) (by omega)
  have hb := allOf_bd n
  have hb' := allOf_bd (n + 1)
  rw [shl1_u64 n h0 h1]
  have e : (allOf n).toNat ||| 2 ^ n.toNat = (allOf (n + 1)).toNat := by
    apply Nat.eq_of_testBit_eq
    intro j
    rw [Nat.testBit_or, allOf_bit', allOf_bit', Nat.testBit_two_pow]
    rw [Bool.eq_iff_iff]
    simp only [Bool.or_eq_true, Bool.and_eq_true, decide_eq_true_eq]
    omega
  have hu := u64_or (allOf n) ((2 ^ n.toNat : Nat) : Int) hb.1 hb.2
  rw [Int.toNat_natCast, e] at hu
  generalize 2 ^ n.toNat = p at *
  rw [hu (by omega) (by omega)]
  omega
end MM

theorem oneCells (l : List Int) : ∀ u ∈ l.map (Value.int .i64), u.oneCell' = true := by
  intro u hu
  obtain ⟨y, _, rfl⟩ := List.mem_map.1 hu
  rfl
theorem oneCells2 (z : Int) (l : List Int) : ∀ u ∈ [Value.int .i64 z] ++ l.map (Value.int .i64), u.oneCell' = true := by
  intro u hu
  rcases List.mem_append.1 hu with h | h
  · simp at h; subst h; rfl
  · exact oneCells l u h
/-- A slice that a call owns, and that holds something or came of an append to one that was not nil. -/
theorem ownsRow_some {W : World} {b : Nat} {e : TypeId} {n : Nat} {v : Value} {xs : List Value} (h : W.ownsRow b e 1 v n xs) (hv : v ≠ .slice none 0 0) :
    ∃ g cap, v = .slice (some ⟨g, 0, none⟩) n cap ∧ n ≤ cap ∧ g < W.heap.size ∧ b ≤ g ∧ cap ≤ maxLen := by
  rcases h.2 with ⟨rfl, _⟩ | ⟨g, cap, cur, rfl, hg, hh, hle, hm, _⟩
  · exact absurd rfl hv
  · exact ⟨g, cap, rfl, hle, (Array.getElem?_eq_some_iff.1 hh).1, hg, hm⟩

set_option maxRecDepth 100000 in
set_option maxHeartbeats 1000000 in
theorem allLaw_any (n : Int) (v : Value) (zs : List Int) (at' : Int) (n0 : -9223372036854775808 ≤ n) (n1 : n ≤ 9223372036854775807) (w : World) (hs : IntSl w.heap.size w v zs)
    (hnil : ∀ len cap, v = .slice none len cap → len = 0 ∧ cap = 0) (a0 : 0 ≤ at') (a1 : at' ≤ 255) (hT : Tab w) :
    Calls Tryd.prog 9 #[.int .i64 n, v, .int .u8 at'] w fun e w' => e = .returned (.bool true) ∧ Below w.heap.size w w' := by
  have hp := hT.pos
  obtain ⟨i0, hi, hz0, hz1, hz2⟩ := info_parts infoInt
  have hA := allOf_bd n
  have CL := fun w hT => len_any (allOf n) hA.1 hA.2 w hT
  rw [MM.len_all] at CL
  have hs' := hs
  obtain ⟨hm, av, cv, rfl, hcs⟩ := hs
  unfold maxLen at hm
  have hnil' : av = none → zs.length = 0 ∧ cv = 0 := fun h => hnil _ _ (by rw [h])
  replace hcs := Lib.hid hcs
  replace hs' := Lib.hid hs'
  replace hnil' := Lib.hid hnil'
  replace CL := Lib.hid CL
  have CA := Lib.hid (fun w => all_any (n + 1) w)
  obtain ⟨k, hk⟩ : ∃ k : Nat, at' % ((zs.length : Int) + 1) = (k : Int) := ⟨(at' % ((zs.length : Int) + 1)).toNat, by have := Int.emod_nonneg at' (show ((zs.length : Int) + 1) ≠ 0 by omega); omega⟩
  have hkN : k ≤ zs.length := by have := Int.emod_lt_of_pos at' (show 0 < ((zs.length : Int) + 1) by omega); omega
  clear hnil
  have hcase : (decide (n < 64) = false ∧ min (max n 0) 64 = 64) ∨ (decide (n < 64) = true ∧ decide (0 ≤ n) = false ∧ min (max n 0) 64 = 0) ∨
      (decide (n < 64) = true ∧ decide (0 ≤ n) = true ∧ 0 ≤ n ∧ n < 64 ∧ bits BinOp.or IntKind.u64 (allOf n) (IntKind.u64.wrap (2 ^ n.toNat)) = allOf (n + 1) ∧ IntKind.i64.wrap (n + 1) = n + 1) := by
    by_cases h1 : n < 64
    · by_cases h0 : 0 ≤ n
      · exact .inr (.inr ⟨by simpa using h1, by simpa using h0, h0, h1, MM.all_succ n h0 h1, IntWalk.i64_in _ (by omega)⟩)
      · exact .inr (.inl ⟨by simpa using h1, by simpa using h0, by omega⟩)
    · exact .inl ⟨by simpa using h1, by omega⟩
  rcases hcase with ⟨t1, e1⟩ | ⟨t1, t2, e1⟩ | ⟨t1, t2, hh0, hh1, hsucc, e3⟩
  all_goals
    go_enter Tryd.func9, Tryd.ntmps9
    go_wp2_with fail
    refine (all_any n _).mono ?_
    rintro e w1 ⟨rfl, rfl⟩
    go_wp2_with fail
    refine wp_region_below w.heap.size w (by kernel_rfl) (by kernel_rfl) (Below.refl _ _) ?_
    repeat (go_big_quiet_step (first
      | (intro _; exact rfl)
      | (intro hW; go_at_call 18; exact Calls.below_of hW (CL.out _ (hT.below hW hp)))
      | (intro hW; go_at_call 13; exact Calls.below_same hW (CA.out _))))
    refine wpQuiet_nil ?_
    intro w2 hB
    by_cases hbig : 50 < zs.length
    · go_wp2_with fail
      refine (awake_any _ (hT.below hB hp)).mono ?_
      rintro e w3 ⟨rfl, hb⟩
      replace hB := hB.trans (hb.mono hB.size)
      clear hb
      go_wp2
      go_ret
      exact ⟨rfl, hB⟩
    · have hs2 := Lib.hid ((hs'.out.below hB).below ((Below.refl _ w2).alloc hB.size (.cells #[] 3)))
      go_wp2_with (at_builtin; refine wpList_append_num rfl _ _ 24 rfl w2.heap.size 3 i0 (.int .i64 0) 8 Tryd.underlying24 hi hz0 hz1 hz2 rfl _ 0 [] rfl (World.ownsRow_lit w2 #[] 0 (Nat.le_refl _) (by decide) rfl) .i64 _ _ _ zs rfl hs2.out hnil'.out (by unfold maxLen; omega) (by omega) (by simp) ?_; intro v' w3 hown hgrow hne; obtain ⟨g, c3, hv', hNc, hg3, hgB, hcm⟩ := ownsRow_some hown (fun h => by have h2 := (hne.1 h).1; cases h2); rw [hv'] at hown ⊢; clear hv' hne)
      rw [hk]
      have hown' : w3.ownsRow w2.heap.size 3 1 (.slice (some ⟨g, 0, none⟩) zs.length c3) zs.length (zs.map (Value.int .i64)) := by simpa using hown
      replace hB := (hB.alloc hB.size (.cells #[] 3)).trans ((Below.refl _ _).grown hgrow (by have := hB.size; simp; omega) (fun j hj => by cases hj; exact hB.size))
      clear hown hgrow
      have w1e : IntKind.i64.wrap (64 + (k : Int)) = 64 + (k : Int) := IntWalk.i64_in _ (by omega)
      have hrow1 : ∀ w : World, (w.alloc (.cells #[.int .i64 (64 + (k : Int))] 3)).ownsRow w.heap.size 3 1 (.slice (some ⟨w.heap.size, 0, none⟩) 1 1) 1 [.int .i64 (64 + (k : Int))] := fun w => World.ownsRow_lit w _ 1 (Nat.le_refl _) (by decide) rfl
      replace hrow1 := Lib.hid hrow1
      have hsf := slice_front g zs.length c3 k (by omega)
      have hsb := slice_back g zs.length c3 k hkN
      have hcell : ∀ j y, zs[j]? = some y → w3.cell? ⟨g, j, none⟩ = some (.int .i64 y) := by
        intro j y hy
        have hj : j < zs.length := (List.getElem?_eq_some_iff.1 hy).1
        rw [hown'.cellAt j (by omega), List.getElem?_map, hy]
        rfl
      have hfront : ∀ W, Below w3.heap.size w3 W → ∀ j u, ((zs.take k).map (Value.int .i64))[j]? = some u → W.cell? ((⟨g, 0, none⟩ : Addr).add j) = some u := by
        intro W hW j u hu
        rw [List.getElem?_map] at hu
        obtain ⟨y, hy, rfl⟩ := Option.map_eq_some_iff.1 hu
        rw [Go.WideShapes.add_plain, Nat.zero_add]
        have hj : j < k := by have := (List.getElem?_eq_some_iff.1 hy).1; rw [List.length_take] at this; omega
        rw [List.getElem?_take_of_lt hj] at hy
        exact (hW.cell (p := ⟨g, j, none⟩) hg3).trans (hcell j y hy)
      have hback : ∀ W, Below w3.heap.size w3 W → ∀ j u, ((zs.drop k).map (Value.int .i64))[j]? = some u → W.cell? ((backAt g c3 k).add j) = some u := by
        intro W hW j u hu
        rw [List.getElem?_map] at hu
        obtain ⟨y, hy, rfl⟩ := Option.map_eq_some_iff.1 hu
        rw [List.getElem?_drop] at hy
        have hj : k + j < zs.length := (List.getElem?_eq_some_iff.1 hy).1
        unfold backAt
        rw [if_neg (by omega), Go.WideShapes.add_plain]
        exact (hW.cell (p := ⟨g, k + j, none⟩) hg3).trans (hcell _ y hy)
      replace hfront := Lib.hid hfront
      replace hback := Lib.hid hback
      clear hcell
      replace hk := Lib.hid hk
      generalize backAt g c3 k = ab at hsb hback
      clear hown'
      have hgW := Lib.hid (fun (w4 : World) (hgr : ((w3.alloc (.cells #[.int .i64 (64 + (k : Int))] 3)).drew).grownBy w4 (some w3.heap.size)) => ((Below.refl w3.heap.size w3).alloc (Nat.le_refl _) (.cells #[.int .i64 (64 + (k : Int))] 3)).drew.grown hgr (by simp) (fun j hj => by cases hj; exact Nat.le_refl _))
      go_region_law (first
        | (refine step_append_num rfl (.tmp 59) (.tmp 62) 24 rfl w3.heap.size 3 i0 (.int .i64 0) 8 Tryd.underlying24 hi hz0 hz1 hz2 rfl (.slice (some ⟨w3.heap.size, 0, none⟩) 1 1) 1 [.int .i64 (64 + (k : Int))] rfl (hrow1.out w3).drew ab (zs.length - k) _ ((zs.drop k).map (Value.int .i64)) rfl (by simp) (hback.out _ ((Below.refl w3.heap.size w3).alloc (Nat.le_refl _) _).drew) (oneCells _) (by unfold maxLen; omega) (by omega) (by simp) ?_
           intro v1 w4 hown1 hgrow1 hne1
           have hW4 := hgW.out w4 hgrow1
           obtain ⟨g1, c1, hv1, _, _, _, _⟩ := ownsRow_some hown1 (fun h => by have h2 := (hne1.1 h).1; cases h2)
           rw [hv1] at hown1 ⊢
           clear hv1 hne1 hgrow1
           replace hown1 := Lib.hid hown1)
        | (refine step_append_grows rfl (.tmp 56) (.tmp 63) 24 rfl 3 i0 (.int .i64 0) 1 8 Tryd.underlying24 hi hz0 hz1 hz2 rfl (by decide) (some ⟨g, 0, none⟩) k k ((zs.take k).map (Value.int .i64)) rfl (fun h => by cases h) (by simp; omega) (fun b hb => by cases hb; exact hfront.out _ hW4) ⟨g1, 0, none⟩ (1 + (zs.length - k)) c1 ([.int .i64 (64 + (k : Int))] ++ (zs.drop k).map (Value.int .i64)) rfl (by simp; omega) (hown1.out.cells rfl) (oneCells2 _ _) (by omega) (by unfold maxLen; omega) (by omega) ?_
           intro v2 w5 hown2 hgrow2))
      have hw4 : w.heap.size ≤ w4.heap.size := Nat.le_trans hB.size hW4.size
      replace hB := (hB.trans (hW4.mono hB.size)).grown hgrow2 (by have := hB.size; have := hW4.size; omega) (fun j hj => by cases hj)
      rw [show k + (1 + (zs.length - k)) = zs.length + 1 by omega] at hown2
      obtain ⟨g2, c2, hv2, hle2, hlt2, hge2, _⟩ := ownsRow_some hown2 (fun h => by subst h; rcases hown2.2 with ⟨_, h0⟩ | ⟨_, _, _, h0, _⟩; · omega
                                                                                   · cases h0)
      rw [hv2] at hown2 ⊢
      clear hv2 hgrow2 hown1 hgW hfront hback hrow1 hsf hsb
      have hbl : w5.ownsRow w4.heap.size 3 1 (.slice (some ⟨g2, 0, none⟩) (zs.length + 1) c2) (zs.take k ++ (64 + (k : Int)) :: zs.drop k).length ((zs.take k ++ (64 + (k : Int)) :: zs.drop k).map (Value.int .i64)) := by
        rw [show (zs.take k ++ (64 + (k : Int)) :: zs.drop k).length = zs.length + 1 by simp; omega]
        simpa using hown2
      have hok1 : okInts (zs.take k ++ (64 + (k : Int)) :: zs.drop k) = false := by simp [okInts]; intros; omega
      have hlenb : (zs.take k ++ (64 + (k : Int)) :: zs.drop k).length = zs.length + 1 := by simp; omega
      have hgetb : ((zs.take k ++ (64 + (k : Int)) :: zs.drop k).map (Value.int .i64))[k]? = some (.int .i64 (64 + (k : Int))) := by
        rw [List.getElem?_map, List.getElem?_append_right (by rw [List.length_take]; omega)]
        simp [List.length_take, Nat.min_eq_left hkN]
      have hok2 : okInts ((zs.take k ++ (64 + (k : Int)) :: zs.drop k).set k (-1 - (k : Int))) = false := by
        cases hh : okInts ((zs.take k ++ (64 + (k : Int)) :: zs.drop k).set k (-1 - (k : Int)))
        · rfl
        · have := okInts_mem hh (z := -1 - (k : Int)) (List.mem_iff_getElem?.2 ⟨k, by rw [List.getElem?_set_self (by omega)]⟩)
          omega
      generalize zs.take k ++ (64 + (k : Int)) :: zs.drop k = bl at hbl hok1 hlenb hgetb hok2
      clear hown2
      have hc5 : w5.cell? ⟨g2, k, none⟩ = some (.int .i64 (64 + (k : Int))) := by
        have h := hbl
        rw [hlenb] at h
        rw [h.cellAt k (by omega), hgetb]
      have hf5 : w5.frozen? ⟨g2, k, none⟩ = false := by
        have h := hbl
        rw [hlenb] at h
        exact h.frozenAt k
      have hst := (by
        have h := hbl
        rw [hlenb] at h
        have h2 := (h.stored k (.int .i64 (-1 - (k : Int)))).1
        rw [← hlenb] at h2
        exact h2 : (w5.setCell ⟨g2, k, none⟩ (.int .i64 (-1 - (k : Int)))).ownsRow w4.heap.size 3 1 (.slice (some ⟨g2, 0, none⟩) bl.length c2) bl.length ((bl.map (Value.int .i64)).set k (.int .i64 (-1 - (k : Int)))))
      have CO1 := Lib.hid (of_bad _ bl _ _ (numSl_of_row hbl (by rw [hlenb]; unfold maxLen; omega)) hok1)
      have CO2 := Lib.hid (of_bad _ (bl.set k (-1 - (k : Int))) _ _ (numSl_of_row (q := .i64) (base := w4.heap.size) (e := 3) (by rw [List.map_set, List.length_set]; exact hst) (by rw [List.length_set, hlenb]; unfold maxLen; omega)) hok2)
      rw [hlenb] at CO2
      clear hbl hok1 hgetb hok2 hst hlenb
      replace hge2 : w.heap.size ≤ g2 := Nat.le_trans hw4 hge2
      go_wp2_with fail
      refine CO1.out.mono ?_
      rintro e w6 ⟨rfl, rfl⟩
      go_wp2_with fail
      refine CO2.out.mono ?_
      rintro e w7 ⟨rfl, rfl⟩
      replace hB := hB.setCell (p := ⟨g2, k, none⟩) hge2 (.int .i64 (-1 - (k : Int)))
      go_wp2_with fail
      refine (awake_any _ (hT.below hB hp)).mono ?_
      rintro e w8 ⟨rfl, hb⟩
      replace hB := hB.trans (hb.mono hB.size)
      clear hb
      go_wp2
      go_ret
      exact ⟨rfl, hB⟩
end Go.Proofs.YtacfamelnaocmaaDoor
