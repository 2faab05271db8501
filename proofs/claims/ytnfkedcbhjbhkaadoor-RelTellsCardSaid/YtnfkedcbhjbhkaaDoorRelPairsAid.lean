/- Pairs of a right relation, and their cells. -/
import Derived.Test.YtnfkedcbhjbhkaaDoorRelPairsAlg
namespace Go.Proofs.YtnfkedcbhjbhkaaDoor
open Go.RowKit Go.Shelf

theorem relPairs_ok {N : Nat} {f : Nat → Nat} (h1 : R64 f) (hf : Rgt N f) (w : World) (hT : Tab w) :
    Calls Tryd.prog 32 #[.agg (relC N f)] w fun e w' => ∃ v, e = .returned v ∧ w'.ownsRow w.heap.size 53 2 v (pairsK f N).length (pairCells (pairsK f N)) ∧ Below w.heap.size w w' := by
  have := relPairs_any N f w h1 hT
  rwa [show rightB (N : Int) f = true from hf, if_pos rfl, Int.toNat_natCast] at this
theorem pairCells_append (l m : List (It × It)) : pairCells (l ++ m) = pairCells l ++ pairCells m := by simp [pairCells, List.flatMap_append]
theorem pairCells_length (l : List (It × It)) : (pairCells l).length = l.length * 2 := by
  induction l with
  | nil => rfl
  | cons a l ih => rw [← List.singleton_append, pairCells_append, List.length_append, ih]; simp [pairCells]; omega
theorem pairCells_one (l : List (It × It)) : ∀ u ∈ pairCells l, u.oneCell' = true := by
  intro u hu
  obtain ⟨x, _, hx⟩ := List.mem_flatMap.1 hu
  simp at hx
  rcases hx with rfl | rfl <;> rfl
theorem pairCells_get (l : List (It × It)) (j : Nat) (h : j < l.length) : (pairCells l)[j * 2]? = some (.int .i64 (l[j].1.1 : Int)) ∧ (pairCells l)[j * 2 + 1]? = some (.int .i64 (l[j].2.1 : Int)) := by
  have := pairCells_at l j h
  rw [List.getElem?_map, List.getElem?_eq_getElem h] at this
  exact this
end Go.Proofs.YtnfkedcbhjbhkaaDoor
