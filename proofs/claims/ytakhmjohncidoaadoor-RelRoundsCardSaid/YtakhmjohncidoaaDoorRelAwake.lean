/- The law's examples hold. -/
import Derived.Test.YtakhmjohncidoaaDoorRelEx
namespace Go.Proofs.YtakhmjohncidoaaDoor
open Go.RowKit Go.Shelf

attribute [local go_sem] Oper.semAt_some

/-- A relation in memory comes through a call. -/
theorem RelAt.on {W W' : World} {b : Nat} {n : Int} {f : Nat → Nat} (h : RelAt W b n f) (hb : Below W.heap.size W W') : RelAt W' b n f := h.below hb h.lt
namespace Ex
theorem callR (v : Value) (w : World) (h : PairSl w.heap.size w v (rP.map itP)) : Calls Tryd.prog 44 #[.int .i64 4, v] w fun e w' => e = .returned (.agg (relC 4 rF)) ∧ Below w.heap.size w w' := by
  have := lawOf_any 4 v _ w h
  rwa [ofR] at this
theorem callS (v : Value) (w : World) (h : PairSl w.heap.size w v (sP.map itP)) : Calls Tryd.prog 44 #[.int .i64 4, v] w fun e w' => e = .returned (.agg (relC 4 sF)) ∧ Below w.heap.size w w' := by
  have := lawOf_any 4 v _ w h
  rwa [ofS] at this
theorem callU (v : Value) (w : World) (h : PairSl w.heap.size w v (uP.map itP)) : Calls Tryd.prog 44 #[.int .i64 3, v] w fun e w' => e = .returned (.agg (relC 3 uF)) ∧ Below w.heap.size w w' := by
  have := lawOf_any 3 v _ w h
  rwa [ofU] at this
theorem callX (v : Value) (w : World) (h : PairSl w.heap.size w v (xP.map itP)) : Calls Tryd.prog 8 #[.int .i64 2, v] w fun e w' => e = .returned (.tuple #[.agg (relC 0 zf), .int .i64 2]) ∧ Below w.heap.size w w' := by
  have := relOf_any 2 v _ w h
  unfold OfPost at this
  rwa [ofX] at this
theorem callT (w : World) (hT : Tab w) : Calls Tryd.prog 17 #[.agg (relC 4 rF), .agg (relC 4 rF)] w fun e w' => e = .returned (.tuple #[.agg (relC 4 tF), .int .i64 0]) ∧ Below w.heap.size w w' := by
  have := thens_any 4 4 rF rF r64 r64 w hT
  unfold CombPost at this
  rw [thenT] at this
  change Calls _ _ _ _ fun e w' => e = .returned (.tuple #[.agg (relC 4 (cutF 4 (thenF rF rF))), .int .i64 0]) ∧ _ at this
  rwa [thenR] at this
theorem callP (w : World) (hT : Tab w) : Calls Tryd.prog 26 #[.agg (relC 4 rF)] w fun e w' => e = .returned (.agg (relC 4 pF)) ∧ Below w.heap.size w w' := by
  have := plus_any 4 rF w r64 hT
  rw [right_r] at this
  change Calls _ _ _ _ fun e w' => e = .returned (.agg (relC 4 (plusF 4 rF))) ∧ _ at this
  rwa [plusR] at this
theorem callTopR (w : World) (hT : Tab w) : Calls Tryd.prog 34 #[.agg (relC 4 rF)] w fun e w' => (∃ v, e = .returned (.tuple #[v, .bool false])) ∧ Below w.heap.size w w' := by
  have := top_any 4 rF w r64 hT
  rw [topR] at this
  refine this.mono ?_
  rintro e w' ⟨v, h, _, hb⟩
  exact ⟨⟨v, h⟩, hb⟩
theorem callTopS (w : World) (hT : Tab w) : Calls Tryd.prog 34 #[.agg (relC 4 sF)] w fun e w' => (∃ v, e = .returned (.tuple #[v, .bool true]) ∧ SlI w'.heap.size w' v [0, 1, 2, 3]) ∧ Below w.heap.size w w' := by
  have := top_any 4 sF w s64 hT
  rw [topS] at this
  refine this.mono ?_
  rintro e w' ⟨v, h, ho, hb⟩
  exact ⟨⟨v, h, slI_of_row (zs := [0, 1, 2, 3]) ho (by decide)⟩, hb⟩
theorem callRing (w : World) (hT : Tab w) : Calls Tryd.prog 37 #[.agg (relC 4 rF)] w fun e w' => (∃ v, e = .returned v ∧ SlI w'.heap.size w' v [0, 1, 2]) ∧ Below w.heap.size w w' := by
  have := ring_any 4 rF w r64 hT
  rw [ringR] at this
  refine this.mono ?_
  rintro e w' ⟨v, h, ho, hb, _⟩
  exact ⟨⟨v, h, slI_of_row (zs := [0, 1, 2]) ho (by decide)⟩, hb⟩
theorem callRingU (w : World) (hT : Tab w) : Calls Tryd.prog 37 #[.agg (relC 3 uF)] w fun e w' => (∃ v, e = .returned v ∧ SlI w'.heap.size w' v [2]) ∧ Below w.heap.size w w' := by
  have := ring_any 3 uF w u64 hT
  rw [ringU] at this
  refine this.mono ?_
  rintro e w' ⟨v, h, ho, hb, _⟩
  exact ⟨⟨v, h, slI_of_row (zs := [2]) ho (by decide)⟩, hb⟩
theorem callPairs (w : World) (hT : Tab w) : Calls Tryd.prog 22 #[.agg (relC 4 tF)] w fun e w' => (∃ v, e = .returned v ∧ PairSl w'.heap.size w' v (tP.map itP)) ∧ Below w.heap.size w w' := by
  have := relPairs_any 4 tF w t64 hT
  rw [right_t] at this
  refine this.mono ?_
  rintro e w' ⟨v, h, ho, hb⟩
  have hl : (pairsK tF 4).length = 4 := by rw [← List.length_map (f := itP), pairsT]; rfl
  refine ⟨⟨v, h, ?_⟩, hb⟩
  rw [← pairsT]
  exact pairSl_of_row (l := pairsK tF 4) ho (by rw [hl]; decide)
theorem callH1 (w : World) : Calls Tryd.prog 19 #[.agg (relC 4 pF), .int .i64 0, .int .i64 0] w fun e w' => e = .returned (.bool true) ∧ Below w.heap.size w w' := by
  have := relHas_any 4 pF 0 0 w p64
  rwa [has1] at this
theorem callH2 (w : World) : Calls Tryd.prog 19 #[.agg (relC 4 pF), .int .i64 0, .int .i64 3] w fun e w' => e = .returned (.bool true) ∧ Below w.heap.size w w' := by
  have := relHas_any 4 pF 0 3 w p64
  rwa [has2] at this
theorem callH3 (w : World) : Calls Tryd.prog 19 #[.agg (relC 4 pF), .int .i64 3, .int .i64 3] w fun e w' => e = .returned (.bool false) ∧ Below w.heap.size w w' := by
  have := relHas_any 4 pF 3 3 w p64
  rwa [has3] at this
theorem callAc (w : World) (hT : Tab w) : Calls Tryd.prog 42 #[.agg (relC 4 rF)] w fun e w' => e = .returned (.bool false) ∧ Below w.heap.size w w' := by
  have := acyclic_any 4 rF w r64 hT
  rwa [topR] at this

/-- A new relation, laid. -/
theorem lay (W : World) (n : Int) (f : Nat → Nat) : ∃ W', (stRel (.pointer (some ⟨W.heap.size, 0, none⟩)) (.agg (relC n f))).run Tryd.prog (W.alloc (.cells (relC 0 zf) 26)) = .ok () W' ∧ RelAt W' W.heap.size n f ∧ Below W.heap.size W W' ∧ W'.heap.size = W.heap.size + 1 := by
  obtain ⟨W', h1, h2, h3⟩ := (RelAt.new W 0 zf).put n f
  exact ⟨W', h1, h2, below_only ((Below.refl W.heap.size W).alloc (Nat.le_refl _) _) h3 (Nat.le_refl _), by rw [h3.size]; simp⟩
end Ex
end Go.Proofs.YtakhmjohncidoaaDoor
