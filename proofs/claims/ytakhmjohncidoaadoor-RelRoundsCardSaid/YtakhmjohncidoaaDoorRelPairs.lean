/- rel.Pairs. -/
import Derived.OwnWalkIn
import Derived.Test.YtakhmjohncidoaaDoorRelBack
namespace Go.Proofs.YtakhmjohncidoaaDoor
open Go.RowKit Go.Shelf

attribute [local go_sem] Oper.semAt_some

theorem infoPair : (Tryd.prog.info? 52).map (fun i => (i.zero, i.size, i.bytes)) = some (some (.agg #[.int .i64 0, .int .i64 0]), 2, 16) := by kernel_rfl

/-- The cells of a list of pairs. -/
def pairCells (l : List (It × It)) : List Value := l.flatMap fun x => [.int .i64 (x.1.1 : Int), .int .i64 (x.2.1 : Int)]
theorem pairCells_snoc (l : List (It × It)) (x : It × It) : pairCells (l ++ [x]) = pairCells l ++ [.int .i64 (x.1.1 : Int), .int .i64 (x.2.1 : Int)] := by simp [pairCells, List.flatMap_append]

set_option maxRecDepth 100000 in
set_option maxHeartbeats 2000000 in
theorem relPairs_in (n : Int) (f : Nat → Nat) (w : World) (hf : R64 f) (hT : Tab w) :
    CallsIn Fence.wide 12 Tryd.prog 22 #[.agg (relC n f)] w fun e w' => ∃ v, e = .returned v ∧
      w'.ownsRow w.heap.size 52 2 v (if rightB n f then pairsK f n.toNat else []).length (pairCells (if rightB n f then pairsK f n.toNat else [])) ∧ Below w.heap.size w w' := by
  have hA := RelAt.new w n f
  have hB : Below w.heap.size w (w.alloc (.cells (relC n f) 26)) := (Below.refl _ w).alloc (Nat.le_refl _) _
  have R1 := Lib.hid (fun w => right_any n f w hf)
  have l1 := hA.ld
  obtain ⟨i0, hi, hz0, hz1, hz2⟩ := info_parts infoPair
  refine callsIn_of_wp_marks Tryd.func22 rfl trivial ?_ rfl
  simp only [Tryd.ntmps22, List.size_toArray, List.length_cons, List.length_nil, Nat.reduceAdd, Nat.reduceSub, Array.replicate_succ, Array.replicate_zero, List.push_toArray, List.append_toArray, List.nil_append, List.cons_append]
  cases h : rightB n f
  · rw [h] at R1
    clear h
    gi_wp2_with fail
    refine ⟨trivial, ?_⟩
    refine (callsIn_wide.2 (R1.out _)).mono ?_
    rintro e w1 ⟨rfl, hb⟩
    replace hB := hB.trans (hb.mono hB.size)
    clear hb l1
    gi_wp2
    exact ⟨_, results_tmp rfl _ _ _, _, rfl, World.ownsRow_nil _ _ _ _, hB⟩
  · have hrt := h
    rw [h] at R1
    clear h
    have Hrt := Lib.hid hrt
    obtain ⟨⟨hn0, hn1⟩, -⟩ := rightB_iff.1 hrt
    clear hrt
    gi_wp2_with fail
    refine ⟨trivial, ?_⟩
    refine (callsIn_wide.2 (R1.out _)).mono ?_
    rintro e w1 ⟨rfl, hb⟩
    replace hA := hA.below hb (by simp)
    replace hB := hB.trans (hb.mono hB.size)
    have Hs := Lib.hid (show w.heap.size + 1 ≤ w1.heap.size by have := hb.size; simpa using this)
    clear hb l1
    have l2 := (hA.alloc (.cells #[.slice none 0 0] 27)).ld
    gi_wp2_with fail
    refine ⟨trivial, ?_⟩
    refine (callsIn_wide.2 (pairs_any n f _)).mono ?_
    rintro e w4 ⟨rfl, rfl⟩
    clear l2
    gi_wp2_with fail
    have bO := (Boxed.new w1 27 (.slice none 0 0)).alloc (.cells (relC n f) 26)
    have hP := RelAt.new (w1.alloc (.cells #[.slice none 0 0] 27)) n f
    rw [World.size_alloc] at hP
    have hB4 := (hB.alloc (by have := Hs.out; omega) (.cells #[.slice none 0 0] 27)).alloc (by have := Hs.out; simp; omega) (.cells (relC n f) 26)
    have hsz4 := Lib.hid (show ((w1.alloc (.cells #[.slice none 0 0] 27)).alloc (.cells (relC n f) 26)).heap.size = w1.heap.size + 2 by simp)
    clear hB
    generalize (w1.alloc (.cells #[.slice none 0 0] 27)).alloc (.cells (relC n f) 26) = W4 at *
    have hpos := hT.pos
    have hlen := pairsK_le f n.toNat (by omega)
    refine range_all rfl (by omega) (gf := 68) (lb := #[.pointer (some ⟨w1.heap.size + 1, 0, none⟩)]) rfl trivial (enters_of Tryd.func68 (by kernel_rfl) rfl)
      (pairs1_gives 52 (by decide) (by decide) 11 (by omega) (w1.heap.size + 1) w.heap.size hpos n f Hrt.out W4 (hT.below hB4 hpos) (by have := hB4.size; omega) hP) (fun k hk => by have := hsz4.out; have := Hs.out; omega) (fun _ => rfl)
      (fun pre W => (∃ v, Boxed W w1.heap.size 27 v ∧ W.ownsRow w.heap.size 52 2 v pre.length (pairCells pre) ∧ True) ∧ Below w.heap.size w W ∧ RelAt W (w1.heap.size + 1) n f)
      ?own ⟨⟨_, bO, World.ownsRow_nil _ _ _ _, trivial⟩, hB4, hP⟩
      (fun y : It × It => { tmps := #[.agg (relC n f), .pointer (some ⟨w.heap.size, 0, none⟩), .slice none 0 0, .pointer (some ⟨w1.heap.size, 0, none⟩), .int .i64 (y.1.1 : Int), .int .i64 (y.2.1 : Int), .agg (relC n f), .bool true, .bool false, .agg (relC n f), .func (.func 68) #[] #[.pointer (some ⟨w1.heap.size + 1, 0, none⟩)], .int .i64 (y.1.1 : Int), .int .i64 (y.2.1 : Int), undef, undef, undef, undef, undef, undef, undef], defers := [] }) ?assign ?body ?done
    case own =>
      exact OwnFrom.and (Own.from (holdsRow_own w.heap.size w1.heap.size 27 52 2 (fun pre : List (It × It) => pre.length) pairCells (fun _ _ => True)) _) (OwnFrom.and (ownFrom_below (Nat.le_refl _) (by have := hB4.size; omega)) (fun _ _ _ _ hs hg hr => heap_kept hg hr hs (.inl rfl)))
    case assign =>
      intro l x W K hK
      unfold encP
      gi_wp2
      exact hK
    case body =>
      rintro l pre ⟨⟨a, ha⟩, ⟨b, hb⟩⟩ W ⟨⟨v, hv, hrow, -⟩, hB, hRB⟩ hlt
      have hc := hv.cell
      have hpl : pre.length ≤ 2400 := by omega
      have hbx : w.heap.size ≤ w1.heap.size := by have := Hs.out; omega
      have hrr : ∀ k, v.ownBlock = some k → ¬ (k < w.heap.size ∨ k = w1.heap.size + 1) ∧ ∀ o, (W.alloc (.cells #[.int .i64 (a : Int), .int .i64 (b : Int)] 52)).heap[k]? = some o → soft 52 o := by
        intro k hk
        rcases (hrow.alloc (.cells #[.int .i64 (a : Int), .int .i64 (b : Int)] 52)).2 with ⟨rfl, _⟩ | ⟨g, cap, cur, rfl, hg, hgb, _⟩
        · simp [Value.ownBlock] at hk
        · obtain rfl : g = k := by simpa [Value.ownBlock] using hk
          refine ⟨fun h => ?_, fun o ho => ?_⟩
          · rcases h with h | h
            · omega
            · have h1 := hRB.alloc (.cells #[.int .i64 (a : Int), .int .i64 (b : Int)] 52)
              rw [← h] at h1
              have := (show _ = _ from h1).symm.trans hgb
              simp at this
          · rw [hgb] at ho
            exact ⟨_, _, (Option.some.inj ho).symm⟩
      gi_wp2_with (gi_at_builtin; refine wpListIn_append_own _ rfl _ _ 27 rfl w.heap.size 52 i0 (.agg #[.int .i64 0, .int .i64 0]) 2 16 Tryd.underlying27 hi hz0 hz1 hz2 rfl (by decide) _ _ _ rfl (hrow.alloc _) ⟨W.heap.size, 0, none⟩ 1 1 [.int .i64 (a : Int), .int .i64 (b : Int)] rfl rfl (cell_two_new _ _ _ _) (by simp [Value.oneCell']) (by unfold maxLen; omega) (by omega) (by have := hB.size; simp; omega) ?_; intro v' w2 hown' hgrow _; obtain ⟨g', cap', rfl⟩ := ownsRow_succ hown'; obtain ⟨hv1, hv2, hr2, hk2, hb2⟩ := hv.appended (by decide) hrow hB.size hbx hown' hgrow; have hc1 := hv1.cell; have hf1 := hv1.frozen)
      have hKp : Keep 52 (fun k => k < w.heap.size ∨ k = w1.heap.size + 1) W4.heap.size W (w2.setCell ⟨w1.heap.size, 0, none⟩ (.slice (some ⟨g', 0, none⟩) (pre.length + 1) cap')) :=
        ((Keep.alloc W _).trans (Keep.of_grown hgrow hrr)).trans (Keep.setCell w2 _ _ (by have := Hs.out; simp; omega) (by have := hsz4.out; simp; omega))
      have hr3 : (w2.setCell ⟨w1.heap.size, 0, none⟩ (.slice (some ⟨g', 0, none⟩) (pre.length + 1) cap')).ownsRow w.heap.size 52 2 (.slice (some ⟨g', 0, none⟩) (pre.length + 1) cap') (pre ++ [((⟨a, ha⟩ : It), (⟨b, hb⟩ : It))]).length (pairCells (pre ++ [((⟨a, ha⟩ : It), (⟨b, hb⟩ : It))])) := by
        rw [pairCells_snoc, List.length_append]
        exact hr2
      exact ⟨hKp, ⟨_, hv2, hr3⟩, hB.trans hb2, hKp.block _ _ (.inl (.inr rfl)) hRB⟩
    case done =>
      rintro D W5 hD ⟨⟨v, hv, hrow, -⟩, hB, -⟩ hDf
      have hc := hv.cell
      gi_wp2
      refine ⟨by simp, .inl ⟨_, _, rfl, run_takeDeferred hDf, ?_⟩⟩
      exact ⟨_, results_tmp rfl _ _ _, v, rfl, ownsRow_putObj hrow _ hDf rfl, below_putObj hB (by have := hB4.size; omega)⟩

theorem relPairs_any (n : Int) (f : Nat → Nat) (w : World) (hf : R64 f) (hT : Tab w) :
    Calls Tryd.prog 22 #[.agg (relC n f)] w fun e w' => ∃ v, e = .returned v ∧
      w'.ownsRow w.heap.size 52 2 v (if rightB n f then pairsK f n.toNat else []).length (pairCells (if rightB n f then pairsK f n.toNat else [])) ∧ Below w.heap.size w w' :=
  callsIn_wide.1 (relPairs_in n f w hf hT)
end Go.Proofs.YtakhmjohncidoaaDoor
