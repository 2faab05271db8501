/- rel.pairs, rel.Back. -/
import Derived.Test.YtakhmjohncidoaaDoorRelPairs1
import Derived.Test.YtakhmjohncidoaaDoorRoundTail
namespace Go.Proofs.YtakhmjohncidoaaDoor
open Go.RowKit Go.Shelf

attribute [local go_sem] Oper.semAt_some

set_option maxHeartbeats 400000 in
set_option maxRecDepth 100000 in
theorem pairs_any (n : Int) (f : Nat → Nat) (w : World) :
    Calls Tryd.prog 61 #[.agg (relC n f)] w fun e w' => e = .returned (.func (.func 68) #[] #[.pointer (some ⟨w.heap.size, 0, none⟩)]) ∧ w.alloc (.cells (relC n f) 26) = w' := by
  go_enter Tryd.func61, Tryd.ntmps61
  go_wp2
  go_ret
  exact ⟨rfl, rfl⟩

/-- The pairs turned round, laid into rows one by one. -/
def backL (l : List (It × It)) : Nat → Nat := l.foldl (fun g x => upd g x.2.1 (g x.2.1 ||| 2 ^ x.1.1)) zf
theorem backL_snoc (l : List (It × It)) (x : It × It) : backL (l ++ [x]) = upd (backL l) x.2.1 (backL l x.2.1 ||| 2 ^ x.1.1) := by simp [backL, List.foldl_append]
theorem backL_nil : backL [] = zf := rfl
theorem backL_lt (l : List (It × It)) : ∀ j, backL l j < 2 ^ 48 := by
  suffices h : ∀ (l : List (It × It)) (g : Nat → Nat), (∀ j, g j < 2 ^ 48) → ∀ j, (l.foldl (fun g x => upd g x.2.1 (g x.2.1 ||| 2 ^ x.1.1)) g) j < 2 ^ 48 from h l zf (fun _ => Nat.two_pow_pos 48)
  intro l
  induction l with
  | nil => exact fun g h => h
  | cons x l ih =>
    intro g h
    refine ih _ fun j => ?_
    show upd g x.2.1 (g x.2.1 ||| 2 ^ x.1.1) j < 2 ^ 48
    unfold upd
    split
    · exact Nat.or_lt_two_pow (h _) (Nat.pow_lt_pow_right (by omega) x.1.2)
    · exact h j
theorem backL_64 (l : List (It × It)) : R64 (backL l) := fun j => Nat.lt_of_lt_of_le (backL_lt l j) (by decide)

theorem relAt_putObj {W : World} {b D : Nat} {n : Int} {f : Nat → Nat} {o : Obj} (h : RelAt W b n f) (hne : b ≠ D) : RelAt (W.putObj D o) b n f := (World.putObj_heap_other hne).trans h
theorem below_putObj {B D : Nat} {a W : World} {o : Obj} (h : Below B a W) (hD : B ≤ D) : Below B a (W.putObj D o) :=
  h.trans ⟨rfl, rfl, rfl, by simp, fun k hk => World.putObj_heap_other (by omega)⟩

set_option maxRecDepth 100000 in
set_option maxHeartbeats 2000000 in
theorem back_in (n : Int) (f : Nat → Nat) (w : World) (hf : R64 f) (hT : Tab w) :
    CallsIn Fence.wide 12 Tryd.prog 24 #[.agg (relC n f)] w fun e w' => e = .returned (.agg (relC (opN (rightB n f) n) (if rightB n f then backL (pairsK f n.toNat) else zf))) ∧ Below w.heap.size w w' := by
  have hA : RelAt ((w.alloc (.cells (relC n f) 26)).alloc (.cells (relC 0 zf) 26)) w.heap.size n f := (RelAt.new w n f).alloc _
  have hZ : RelAt ((w.alloc (.cells (relC n f) 26)).alloc (.cells (relC 0 zf) 26)) (w.heap.size + 1) 0 zf := by
    have := RelAt.new (w.alloc (.cells (relC n f) 26)) 0 zf
    rwa [World.size_alloc] at this
  have hB : Below w.heap.size w ((w.alloc (.cells (relC n f) 26)).alloc (.cells (relC 0 zf) 26)) := ((Below.refl _ w).alloc (Nat.le_refl _) _).alloc (by simp) _
  have Hs := Lib.hid (show ((w.alloc (.cells (relC n f) 26)).alloc (.cells (relC 0 zf) 26)).heap.size = w.heap.size + 2 by simp)
  have R1 := Lib.hid (fun w => right_any n f w hf)
  have l1 := hA.ld
  refine callsIn_of_wp_marks Tryd.func24 rfl trivial ?_ rfl
  simp only [Tryd.ntmps24, List.size_toArray, List.length_cons, List.length_nil, Nat.reduceAdd, Nat.reduceSub, Array.replicate_succ, Array.replicate_zero, List.push_toArray, List.append_toArray, List.nil_append, List.cons_append]
  cases h : rightB n f
  · rw [h] at R1
    clear h
    gi_wp2_with fail
    refine ⟨trivial, ?_⟩
    refine (callsIn_wide.2 (R1.out _)).mono ?_
    rintro e w1 ⟨rfl, hb⟩
    replace hZ := hZ.below hb (by rw [Hs.out]; omega)
    replace hB := hB.trans (hb.mono hB.size)
    clear hb l1
    obtain ⟨W3, hs3, hR3, hO3⟩ := hZ.put 0 zf
    gi_wp2
    exact ⟨_, results_rel rfl _ _ _ _ _ rfl hR3, rfl, below_only hB hO3 (by omega)⟩
  · have hrt := h
    rw [h] at R1
    clear h
    have Hrt := Lib.hid hrt
    obtain ⟨⟨hn0, hn1⟩, -⟩ := rightB_iff.1 hrt
    clear hrt
    gi_wp2_with fail
    refine ⟨trivial, ?_⟩
    refine (callsIn_wide.2 (R1.out _)).mono ?_
    rintro e w1 ⟨rfl, hb⟩
    replace hZ := hZ.below hb (by rw [Hs.out]; omega)
    replace hA := hA.below hb (by rw [Hs.out]; omega)
    replace hB := hB.trans (hb.mono hB.size)
    replace Hs := Lib.hid (show w.heap.size + 2 ≤ w1.heap.size by have := hb.size; rw [Hs.out] at this; exact this)
    clear hb l1
    have hn := hA.num
    obtain ⟨W3, hs3, hR3, hO3⟩ := (RelAt.new w1 0 zf).put n zf
    replace hZ := (hZ.alloc (.cells (relC 0 zf) 26)).only hO3 (by have := Hs.out; omega)
    replace hA := (hA.alloc (.cells (relC 0 zf) 26)).only hO3 (by have := Hs.out; omega)
    replace hB := below_only (hB.alloc (by have := Hs.out; omega) (.cells (relC 0 zf) 26)) hO3 (by have := Hs.out; omega)
    have hsz3 := Lib.hid (show W3.heap.size = w1.heap.size + 1 by rw [hO3.size]; simp)
    clear hO3
    have l2 := hA.ld
    gi_wp2_with fail
    refine ⟨trivial, ?_⟩
    refine (callsIn_wide.2 (pairs_any n f _)).mono ?_
    rintro e w4 ⟨rfl, rfl⟩
    gi_wp2_with fail
    have hP := RelAt.new W3 n f
    replace hA := hA.alloc (.cells (relC n f) 26)
    replace hZ := hZ.alloc (.cells (relC n f) 26)
    have hR4 := hR3.alloc (.cells (relC n f) 26)
    have hB4 := hB.alloc (by have := Hs.out; have := hsz3.out; omega) (.cells (relC n f) 26)
    have hsz4 := Lib.hid (show (W3.alloc (.cells (relC n f) 26)).heap.size = W3.heap.size + 1 by simp)
    have HE := Lib.hid (And.intro Hs.out hsz3.out)
    clear hs3 l2 hR3 hB
    generalize W3.alloc (.cells (relC n f) 26) = W4 at *
    have hpos := hT.pos
    refine range_all rfl (by omega) (gf := 68) (lb := #[.pointer (some ⟨W3.heap.size, 0, none⟩)]) rfl trivial (enters_of Tryd.func68 (by kernel_rfl) rfl)
      (pairs1_gives 52 (by decide) (by decide) 11 (by omega) W3.heap.size w.heap.size hpos n f Hrt.out W4 (hT.below hB4 hpos) (by have := hB4.size; omega) hP) (fun k hk => by have := hsz4.out; have := HE.out; omega) (fun _ => rfl)
      (fun pre W => RelAt W w1.heap.size n (backL pre) ∧ RelAt W (w.heap.size + 1) 0 zf ∧ Below w.heap.size w W)
      ?own ⟨hR4, hZ, hB4⟩
      (fun y : It × It => { tmps := #[.agg (relC n f), .pointer (some ⟨w.heap.size, 0, none⟩), .pointer (some ⟨w.heap.size + 1, 0, none⟩), .pointer (some ⟨w1.heap.size, 0, none⟩), .int .i64 (y.1.1 : Int), .int .i64 (y.2.1 : Int), .agg (relC n f), .bool true, .bool false, undef, .pointer (some ⟨w.heap.size, 0, none⟩), .int .i64 n, .agg (relC n zf), .agg (relC n f), .func (.func 68) #[] #[.pointer (some ⟨W3.heap.size, 0, none⟩)], .int .i64 (y.1.1 : Int), .int .i64 (y.2.1 : Int), undef, undef, undef, undef, undef, undef, undef, undef, undef, undef], defers := [] }) ?assign ?body ?done
    case own =>
      rintro st A B row ⟨h1, h2, h3⟩ hg hrow
      refine ⟨heap_kept hg hrow h1 (.inl rfl), heap_kept hg hrow h2 (.inl rfl), h3.grown hg (Nat.le_trans (Nat.le_refl _) h3.size) (fun k hk => by have := (hrow k hk).1; have := hB4.size; omega)⟩
    case assign =>
      intro l x W K hK
      unfold encP
      gi_wp2
      exact hK
    case body =>
      rintro l pre ⟨⟨a, ha⟩, ⟨b, hb⟩⟩ W ⟨h1, h2, h3⟩ -
      have c1 := h1.row b hb
      have f1 := h1.free (1 + b)
      have a1 : (a : Int) < 64 := by omega
      have b1 : (b : Int) < 48 := by omega
      have hm : Tryd.prog.follows .mixedOrders = true := by kernel_rfl
      have hor := Lib.hid (show bits BinOp.or IntKind.u64 (backL pre b : Int) (IntKind.u64.wrap (2 ^ a)) = ((backL pre b ||| 2 ^ a : Nat) : Int) by
        have hp : 2 ^ a < 2 ^ 64 := Nat.pow_lt_pow_right (by omega) (by omega)
        rw [shl1_nat a (by omega), u64_or_nat _ _ (backL_64 pre b) hp])
      gi_wp2
      refine wpIn_round_tail 9 hm (by kernel_rfl) (by kernel_rfl) ?_
      simp only [List.take_succ_cons, List.take_zero, List.drop_succ_cons, List.drop_zero]
      repeat still_step
      refine wpStill_nil ?_
      gi_wp2
      refine ⟨(Keep.drew _).trans (Keep.setCell _ _ _ (by have := HE.out; have := hsz4.out; simp; omega) (by have := HE.out; have := hsz4.out; simp; omega)), ?_, h2.other _ _ (by have := HE.out; simp; omega), h3.drew.setCell (by have := HE.out; simp; omega) _⟩
      rw [backL_snoc, hor.out]
      exact h1.drew.set b _ hb
    case done =>
      rintro D W5 hD ⟨h1, h2, h3⟩ hDf
      have l5 := h1.ld
      obtain ⟨W6, hs6, hR6, hO6⟩ := h2.put n (backL (pairsK f n.toNat))
      gi_wp2
      have hlt4 := HE.out
      have hs4 := hsz4.out
      have hD6 : W6.heap[D]? = some (.deferred (some [])) := (hO6.block D (by omega)).trans hDf
      refine ⟨by simp, .inl ⟨_, _, rfl, run_takeDeferred hD6, ?_⟩⟩
      exact ⟨_, results_rel rfl _ _ _ _ _ rfl (relAt_putObj hR6 (by omega)), rfl, below_putObj (below_only h3 hO6 (by omega)) (by omega)⟩

theorem back_any (n : Int) (f : Nat → Nat) (w : World) (hf : R64 f) (hT : Tab w) :
    Calls Tryd.prog 24 #[.agg (relC n f)] w fun e w' => e = .returned (.agg (relC (opN (rightB n f) n) (if rightB n f then backL (pairsK f n.toNat) else zf))) ∧ Below w.heap.size w w' :=
  callsIn_wide.1 (back_in n f w hf hT)
end Go.Proofs.YtakhmjohncidoaaDoor
