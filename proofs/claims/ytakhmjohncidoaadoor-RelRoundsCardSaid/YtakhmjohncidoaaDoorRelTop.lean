/- rel.Top, rel.Acyclic. -/
import Derived.Test.YtakhmjohncidoaaDoorRelSource
namespace Go.Proofs.YtakhmjohncidoaaDoor
open Go.RowKit Go.Shelf

attribute [local go_sem] Oper.semAt_some

theorem infoInt : (Tryd.prog.info? 3).map (fun i => (i.zero, i.size, i.bytes)) = some (some (.int .i64 0), 1, 8) := by kernel_rfl
def intV (k : Nat) : Value := .int .i64 (k : Int)
/-- What is owned from a later base on is owned from an earlier one. -/
theorem ownsRow_base {W : World} {b b' : Nat} {e : TypeId} {size n : Nat} {v : Value} {xs : List Value} (h : W.ownsRow b e size v n xs) (hb : b' ≤ b) : W.ownsRow b' e size v n xs := by
  refine ⟨h.1, ?_⟩
  rcases h.2 with hn | ⟨g, cap, cur, hv, hg, r⟩
  · exact .inl hn
  · exact .inr ⟨g, cap, cur, hv, by omega, r⟩
/-- A row that the call owns is a slice. -/
theorem ownsRow_slice {W : World} {b : Nat} {e : TypeId} {size n : Nat} {v : Value} {xs : List Value} (h : W.ownsRow b e size v n xs) : ∃ a cap, v = .slice a n cap := by
  rcases h.2 with ⟨rfl, rfl⟩ | ⟨g, cap, cur, rfl, _⟩
  · exact ⟨_, _, rfl⟩
  · exact ⟨_, _, rfl⟩
theorem ownsRow_below {W W' : World} {b : Nat} {e : TypeId} {size n : Nat} {v : Value} {xs : List Value} (h : W.ownsRow b e size v n xs) (hb : Below W.heap.size W W') : W'.ownsRow b e size v n xs := by
  refine ⟨h.1, ?_⟩
  rcases h.2 with hn | ⟨g, cap, cur, hv, hg, hh, r⟩
  · exact .inl hn
  · exact .inr ⟨g, cap, cur, hv, hg, (hb.block g (Array.getElem?_eq_some_iff.1 hh).1).trans hh, r⟩
theorem back_ok (n : Int) (f : Nat → Nat) (w : World) (hf : R64 f) (hT : Tab w) (h : rightB n f = true) :
    Calls Tryd.prog 24 #[.agg (relC n f)] w fun e w' => e = .returned (.agg (relC n (backL (pairsK f n.toNat)))) ∧ Below w.heap.size w w' := by
  have := back_any n f w hf hT
  rw [h, if_pos rfl] at this
  exact this

/-- A set without an item. -/
def clr (s a : Nat) : Nat := s &&& (18446744073709551615 - 2 ^ a)
theorem clr_bit (s a : Nat) (hs : s < 2 ^ 48) (ha : a < 48) (j : Nat) : (clr s a).testBit j = (s.testBit j && decide (j ≠ a)) := by
  have hp : 2 ^ a < 2 ^ 64 := Nat.pow_lt_pow_right (by omega) (by omega)
  unfold clr
  rw [show 18446744073709551615 - 2 ^ a = 2 ^ 64 - (2 ^ a + 1) by omega, Nat.testBit_and, Nat.testBit_two_pow_sub_succ hp, Nat.testBit_two_pow]
  by_cases hj : j < 64
  · by_cases h : a = j
    · subst h; simp
    · simp [hj, h, Ne.symm h]
  · rw [Nat.testBit_lt_two_pow (Nat.lt_of_lt_of_le hs (Nat.pow_le_pow_right (by omega) (by omega)))]
    rfl
theorem clr_lt (s a : Nat) (hs : s < 2 ^ 48) : clr s a < 2 ^ 48 := Nat.lt_of_le_of_lt Nat.and_le_left hs
theorem els_clr (s a : Nat) (hs : s < 2 ^ 48) (ha : a < 48) : MM.els (clr s a) = (MM.els s).filter (fun j => decide (j ≠ a)) := by
  unfold MM.els
  rw [List.filter_filter]
  apply List.filter_congr
  intro j _
  rw [clr_bit s a hs ha, Bool.and_comm]
theorem els_clr_len (s a : Nat) (hs : s < 2 ^ 48) (h : a ∈ MM.els s) : (MM.els (clr s a)).length + 1 = (MM.els s).length := by
  rw [els_clr s a hs (els_48 hs h)]
  have hnd : (MM.els s).Nodup := List.Pairwise.filter _ List.nodup_range
  generalize MM.els s = l at h hnd
  induction l with
  | nil => cases h
  | cons x l ih =>
    rw [List.nodup_cons] at hnd
    by_cases hx : x = a
    · subst hx
      rw [List.filter_cons_of_neg (by simp), List.filter_eq_self.2 (fun y hy => by simp; rintro rfl; exact hnd.1 hy)]
      rfl
    · rw [List.filter_cons_of_pos (by simpa using hx)]
      have hm : a ∈ l := by
        rcases List.mem_cons.1 h with e | e
        · exact absurd e.symm hx
        · exact e
      have := ih hm hnd.2
      simp only [List.length_cons]
      omega
theorem srcOf_mem {g : Nat → Nat} {s : Nat} {l : List Nat} {a : Nat} (h : srcOf g s l = some a) : a ∈ l := List.mem_of_find?_eq_some h

/-- The order, taken item by item. -/
def topGo (g : Nat → Nat) : Nat → Nat → List Nat → Option (List Nat)
  | 0, s, acc => if s = 0 then some acc else none
  | k + 1, s, acc => if s = 0 then some acc else match srcOf g s (MM.els s) with | none => none | some a => topGo g k (clr s a) (acc ++ [a])
theorem topGo_zero (g : Nat → Nat) (k : Nat) (acc : List Nat) : topGo g k 0 acc = some acc := by cases k <;> simp [topGo]
theorem topGo_none (g : Nat → Nat) (k s : Nat) (acc : List Nat) (hs : s ≠ 0) (h : srcOf g s (MM.els s) = none) : topGo g k s acc = none := by
  cases k <;> simp [topGo, hs, h]
theorem topGo_some (g : Nat → Nat) (k s : Nat) (acc : List Nat) (hs : s ≠ 0) (a : Nat) (h : srcOf g s (MM.els s) = some a) : topGo g (k + 1) s acc = topGo g k (clr s a) (acc ++ [a]) := by
  simp [topGo, hs, h]
/-- The topological order. -/
def topF (n : Int) (f : Nat → Nat) : Option (List Nat) := if rightB n f then topGo (backL (pairsK f n.toNat)) 48 (allOf n).toNat [] else none

/-- What Top answers. -/
def TopPost (R : Option (List Nat)) (w : World) (e : Ending) (w' : World) : Prop :=
  ∃ v, e = .returned (.tuple #[v, .bool R.isSome]) ∧ w'.ownsRow w.heap.size 3 1 v (R.getD []).length ((R.getD []).map intV) ∧ Below w.heap.size w w'

theorem els_pos {s : Nat} (hs : s < 2 ^ 48) (h : s ≠ 0) : 0 < (MM.els s).length := by
  apply Decidable.byContradiction
  intro hc
  have hnil : MM.els s = [] := List.eq_nil_of_length_eq_zero (by omega)
  apply h
  apply Nat.eq_of_testBit_eq
  intro j
  rw [Nat.zero_testBit]
  apply Decidable.byContradiction
  intro hj
  have hj' : s.testBit j = true := by simpa using hj
  have hlt : j < 48 := by
    apply Decidable.byContradiction
    intro hge
    rw [Nat.testBit_lt_two_pow (Nat.lt_of_lt_of_le hs (Nat.pow_le_pow_right (by omega) (by omega)))] at hj'
    cases hj'
  have : j ∈ MM.els s := MM.mem_els.2 ⟨by omega, hj'⟩
  rw [hnil] at this
  cases this
theorem els_le48 {s : Nat} (hs : s < 2 ^ 48) : (MM.els s).length ≤ 48 := by
  rw [← vals_itS s hs]
  unfold vals itS
  rw [List.length_map]
  have h : allIt.length = 48 := by simp [allIt]
  exact Nat.le_trans (List.length_filter_le _ _) (Nat.le_of_eq h)

theorem relAt_grown {W W' : World} {b : Nat} {n : Int} {f : Nat → Nat} (h : RelAt W b n f) (hg : W.grownBy W' none) : RelAt W' b n f := (hg.block b h.lt (by simp)).trans h
theorem relAt_not_row {W : World} {b : Nat} {n : Int} {f : Nat → Nat} (h : RelAt W b n f) {e : TypeId} (he : 26 ≠ e) {base size k : Nat} {v : Value} {xs : List Value} (hr : W.ownsRow base e size v k xs) : some b ≠ v.ownBlock := by
  rcases hr.2 with ⟨rfl, _⟩ | ⟨g, cap, cur, rfl, _, hgb, _⟩
  · simp [Value.ownBlock]
  · intro e'
    obtain rfl : b = g := by simpa [Value.ownBlock] using e'
    have := (show W.heap[b]? = _ from h).symm.trans hgb
    simp at this
    exact he this.2

set_option maxHeartbeats 4000000 in
set_option maxRecDepth 100000 in
theorem top_any (n : Int) (f : Nat → Nat) (w : World) (hf : R64 f) (hT : Tab w) :
    Calls Tryd.prog 34 #[.agg (relC n f)] w (TopPost (topF n f) w) := by
  obtain ⟨i0, hi, hz0, hz1, hz2⟩ := info_parts infoInt
  have hA := RelAt.new w n f
  have hB : Below w.heap.size w (w.alloc (.cells (relC n f) 26)) := (Below.refl _ w).alloc (Nat.le_refl _) _
  have R1 := Lib.hid (fun w => right_any n f w hf)
  have l1 := hA.ld
  have hp := hT.pos
  cases h : rightB n f
  · have ht := Lib.hid (show topF n f = none by simp [topF, h])
    rw [h] at R1
    clear h
    go_enter Tryd.func34, Tryd.ntmps34
    go_wp2_with fail
    refine (R1.out _).mono ?_
    rintro e w1 ⟨rfl, hb⟩
    replace hB := hB.trans (hb.mono hB.size)
    clear hb l1
    go_wp2
    go_ret2
    rw [ht.out]
    exact ⟨_, rfl, World.ownsRow_nil _ _ _ _, hB⟩
  · have ht := Lib.hid (show topF n f = topGo (backL (pairsK f n.toNat)) 48 (allOf n).toNat [] by simp [topF, h])
    obtain ⟨⟨hn0, hn1⟩, -⟩ := rightB_iff.1 h
    have HBk := fun w hf hT => back_ok n f w hf hT h
    rw [h] at R1
    clear h
    obtain ⟨hal, hae⟩ := allOf_lt48 n hn0 hn1
    have CA := Lib.hid (fun w => all_any n w)
    rw [hae] at CA
    generalize (allOf n).toNat = A0 at *
    clear hae
    have Hg64 := Lib.hid (backL_64 (pairsK f n.toNat))
    replace HBk := Lib.hid HBk
    go_enter Tryd.func34, Tryd.ntmps34
    go_wp2_with fail
    refine (R1.out _).mono ?_
    rintro e w1 ⟨rfl, hb⟩
    replace hB := hB.trans (hb.mono hB.size)
    replace hA := hA.below hb (by simp)
    have hsz := Lib.hid (show w.heap.size + 1 ≤ w1.heap.size by have := hb.size; simpa using this)
    clear hb l1
    have l2 := hA.ld
    go_wp2_with fail
    refine (HBk.out _ hf (hT.below hB hp)).mono ?_
    rintro e w2 ⟨rfl, hb⟩
    replace hA := hA.below hb (by have := hsz.out; omega)
    replace hB := hB.trans (hb.mono hB.size)
    replace hsz := Lib.hid (Nat.le_trans hsz.out hb.size)
    clear hb l2
    generalize backL (pairsK f n.toNat) = g at *
    obtain ⟨W3, hs3, hR3, hO3⟩ := (RelAt.new w2 0 zf).put n g
    replace hA := (hA.alloc (.cells (relC 0 zf) 26)).only hO3 (by have := hsz.out; omega)
    replace hB := below_only (hB.alloc (by have := hsz.out; omega) (.cells (relC 0 zf) 26)) hO3 (by have := hsz.out; omega)
    have hsz3 := Lib.hid (show W3.heap.size = w2.heap.size + 1 by rw [hO3.size]; simp)
    clear hO3
    have hn := hA.num
    have hbs := hB.size
    go_wp2_with (at_make; refine wpList_make_own _ rfl _ _ 46 rfl w.heap.size 3 i0 (.int .i64 0) 1 Tryd.underlying46 hi hz0 hz1 .i64 .i64 _ n.toNat rfl rfl (by omega) (by rw [hz2]; omega) (by unfold maxLen; omega) hbs ?_; intro w0 hown0 hgrow0; have hA0 := relAt_grown hA hgrow0; have hn2 := hA0.num)
    refine (CA.out _).mono ?_
    rintro e w4 ⟨rfl, rfl⟩
    replace hR3 := relAt_grown hR3 hgrow0
    replace hB := hB.grown hgrow0 hbs (fun k hk => by cases hk)
    have hel := els_le48 hal
    go_wp2
    clear hs3 hn hn2 hA0 hA
    go_loopw [5, 6] (fun v s W => ∃ (rest : Nat) (acc : List Nat) (fuel : Nat), s = .int .u64 (rest : Int) ∧ rest < 2 ^ 48 ∧ W.ownsRow w.heap.size 3 1 v acc.length (acc.map intV) ∧ RelAt W w2.heap.size n g ∧ Below w.heap.size w W ∧ acc.length + (MM.els rest).length ≤ 48 ∧ (MM.els rest).length ≤ fuel ∧ topGo g fuel rest acc = topF n f) (fun _ s _ => (intOf s).toNat)
    case atStart => exact ⟨A0, [], 48, rfl, hal, hown0, hR3, hB, by simpa using hel, hel, ht.out.symm⟩
    case round =>
      obtain ⟨rest, acc, fuel, rfl, hrest, hown, hRb, hBw, hlen, hfuel, hgo⟩ := hrel
      have Hgo := Lib.hid hgo
      have Hrest := Lib.hid hrest
      clear hgo hR3 hB hown0 hel hgrow0
      obtain ⟨a0, c0, hv⟩ := ownsRow_slice hown
      rw [hv] at hown ⊢
      clear hv
      by_cases hz : rest = 0
      · subst hz
        have hR := Lib.hid (show topF n f = some acc by rw [← Hgo.out, topGo_zero])
        go_wp2
        go_ret2
        rw [hR.out]
        exact ⟨_, rfl, hown, hBw⟩
      · have t0 : ((rest : Int) != 0) = true := by simp; omega
        have CS := source_any w2.heap.size n g Hg64.out rest Hrest.out wr hRb (hT.below hBw hp)
        cases hsrc : srcOf g rest (MM.els rest) with
        | none =>
          have hR := Lib.hid (show topF n f = none by rw [← Hgo.out, topGo_none g fuel rest acc hz hsrc])
          rw [hsrc] at CS
          replace CS := Lib.hid CS
          clear hsrc hz
          go_wp2_with fail
          refine CS.out.mono ?_
          rintro e w5 ⟨rfl, hb⟩
          unfold optV
          go_wp2
          go_ret2
          rw [hR.out]
          exact ⟨_, rfl, World.ownsRow_nil _ _ _ _, hBw.trans (hb.mono hBw.size)⟩
        | some a =>
          have hmem := srcOf_mem hsrc
          have ha48 := els_48 Hrest.out hmem
          have hcl := els_clr_len rest a Hrest.out hmem
          obtain ⟨fu, rfl⟩ : ∃ fu, fuel = fu + 1 := ⟨fuel - 1, by omega⟩
          have Hgo2 := Lib.hid (show topGo g fu (clr rest a) (acc ++ [a]) = topF n f by rw [← Hgo.out, topGo_some g fu rest acc hz a hsrc])
          have hbit := (MM.mem_els.1 hmem).2
          have hdec : clr rest a < rest := by
            have hle : clr rest a ≤ rest := Nat.and_le_left
            have hne : clr rest a ≠ rest := by
              intro e
              have := clr_bit rest a Hrest.out ha48 a
              rw [e, hbit] at this
              simp at this
            omega
          have hcb := Lib.hid (show bits BinOp.andNot IntKind.u64 (rest : Int) (IntKind.u64.wrap (2 ^ a)) = (clr rest a : Int) by
            have hp2 : 2 ^ a < 2 ^ 64 := Nat.pow_lt_pow_right (by omega) (by omega)
            have hr2 : rest < 18446744073709551616 := Nat.lt_of_lt_of_le Hrest.out (by decide)
            rw [shl1_nat a (by omega), u64_andNot_nat _ _ hr2 hp2]; rfl)
          have hc2 := Lib.hid (clr_lt rest a Hrest.out)
          rw [hsrc] at CS
          replace CS := Lib.hid CS
          have Hbit := Lib.hid hbit
          have Hmem := Lib.hid hmem
          have a64 : (a : Int) < 64 := by omega
          clear hsrc hz hbit hmem Hgo
          go_wp2_with fail
          refine CS.out.mono ?_
          rintro e w5 ⟨rfl, hb⟩
          unfold optV
          replace hown := ownsRow_below hown hb
          replace hRb := hRb.below hb hRb.lt
          replace hBw := hBw.trans (hb.mono hBw.size)
          have hsz5 := hBw.size
          clear hb
          go_wp2_with (at_builtin; refine wpList_append_own _ rfl _ _ 46 rfl w.heap.size 3 i0 (.int .i64 0) 1 8 Tryd.underlying46 hi hz0 hz1 hz2 rfl (by decide) _ _ _ rfl (hown.alloc _) ⟨w5.heap.size, 0, none⟩ 1 1 [.int .i64 (a : Int)] rfl rfl (cell_one_new _ _ _) (by intro u hu; simp at hu; subst hu; rfl) (by unfold maxLen; omega) (by omega) (by simp; omega) ?_; intro v1 w6 hown1 hgrow1 _; obtain ⟨a1, c1, hv1⟩ := ownsRow_slice hown1; rw [hv1] at hown1 ⊢; clear hv1)
          go_roundw
          case rel =>
            refine ⟨clr rest a, acc ++ [a], fu, by rw [hcb.out], hc2.out, ?_, ?_, (hBw.alloc hsz5 _).grown hgrow1 (by simp; omega) (fun j hj => (hown.lt j hj).1), by rw [List.length_append]; simp; omega, by omega, Hgo2.out⟩
            · rw [List.length_append, List.map_append]
              exact hown1
            · have hRc := hRb.alloc (.cells #[.int .i64 (a : Int)] 3)
              exact (hgrow1.block _ hRc.lt (relAt_not_row hRc (by decide) (hown.alloc (.cells #[.int .i64 (a : Int)] 3)))).trans hRc
          case measure => rw [hcb.out]; simp [intOf]; omega

set_option maxHeartbeats 1000000 in
set_option maxRecDepth 100000 in
theorem acyclic_any (n : Int) (f : Nat → Nat) (w : World) (hf : R64 f) (hT : Tab w) :
    Calls Tryd.prog 42 #[.agg (relC n f)] w fun e w' => e = .returned (.bool (topF n f).isSome) ∧ Below w.heap.size w w' := by
  have hA := RelAt.new w n f
  have hB : Below w.heap.size w (w.alloc (.cells (relC n f) 26)) := (Below.refl _ w).alloc (Nat.le_refl _) _
  have l1 := hA.ld
  have HC := Lib.hid (top_any n f _ hf (hT.below hB hT.pos))
  generalize topF n f = R at *
  go_enter Tryd.func42, Tryd.ntmps42
  go_wp2_with fail
  refine HC.out.mono ?_
  rintro e w1 ⟨v, rfl, hown, hb⟩
  replace hB := hB.trans (hb.mono hB.size)
  clear hb hown l1
  go_wp2
  go_ret
  exact ⟨rfl, hB⟩
end Go.Proofs.YtakhmjohncidoaaDoor
