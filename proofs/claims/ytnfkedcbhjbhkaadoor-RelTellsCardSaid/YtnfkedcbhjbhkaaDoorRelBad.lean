/- The contracts of the operations on a relation that is not right. -/
import Derived.Test.YtnfkedcbhjbhkaaDoorRelFine
namespace Go.Proofs.YtnfkedcbhjbhkaaDoor
open Go.RowKit Go.Shelf

attribute [local go_sem] Oper.semAt_some

section
variable {n : Int} {f : Nat → Nat} (hb : rightB n f = false) (hf : R64 f) (w : World)
include hb hf
theorem bad_right : Calls Tryd.prog 16 #[.agg (relC n f)] w fun e w' => e = .returned (.bool false) ∧ Below w.heap.size w w' := by
  have := right_any n f w hf
  rwa [hb] at this
theorem bad_top (hT : Tab w) : Calls Tryd.prog 44 #[.agg (relC n f)] w fun e w' => (∃ v, e = .returned (.tuple #[v, .bool false])) ∧ Below w.heap.size w w' := by
  have := top_any n f w hf hT
  rw [show topF n f = none by simp [topF, hb]] at this
  refine this.mono ?_
  rintro e w' ⟨v, h, _, hb⟩
  exact ⟨⟨v, h⟩, hb⟩
theorem bad_ring (hT : Tab w) : Calls Tryd.prog 47 #[.agg (relC n f)] w fun e w' => e = .returned (.slice none 0 0) ∧ Below w.heap.size w w' := by
  have := ring_any n f w hf hT
  rw [show ringF n f = none by simp [ringF, hb]] at this
  refine this.mono ?_
  rintro e w' ⟨v, h, _, hb, hv⟩
  rw [hv rfl] at h
  exact ⟨h, hb⟩
theorem bad_union (m : Int) (g : Nat → Nat) (hg : R64 g) : Calls Tryd.prog 24 #[.agg (relC n f), .agg (relC m g)] w fun e w' => e = .returned (.tuple #[.agg (relC 0 zf), .int .i64 2]) ∧ Below w.heap.size w w' := by
  have := union_any n m f g hf hg w
  unfold CombPost at this
  rwa [show combB n m f g = false by simp [combB, hb]] at this
theorem bad_then (m : Int) (g : Nat → Nat) (hg : R64 g) (hT : Tab w) : Calls Tryd.prog 27 #[.agg (relC m g), .agg (relC n f)] w fun e w' => e = .returned (.tuple #[.agg (relC 0 zf), .int .i64 2]) ∧ Below w.heap.size w w' := by
  have := thens_any m n g f hg hf w hT
  unfold CombPost at this
  rwa [show combB m n g f = false by simp [combB, hb]] at this
theorem bad_pairs (hT : Tab w) : Calls Tryd.prog 32 #[.agg (relC n f)] w fun e w' => (∃ a c, e = .returned (.slice a 0 c)) ∧ Below w.heap.size w w' := by
  have := relPairs_any n f w hf hT
  rw [hb] at this
  refine this.mono ?_
  rintro e w' ⟨v, h, ho, hb⟩
  obtain ⟨a, c, hv⟩ := ownsRow_slice ho
  rw [hv] at h
  exact ⟨⟨a, c, h⟩, hb⟩
theorem bad_nil : Calls Tryd.prog 32 #[.agg (relC n f)] w fun e w' => e = .returned (.slice none 0 0) ∧ Below w.heap.size w w' := by
  have hA := RelAt.new w n f
  have l1 := hA.ld
  have HR := Lib.hid (bad_right (n := n) (f := f) hb hf (w.alloc (.cells (relC n f) 26)))
  go_enter Tryd.func32, Tryd.ntmps32
  go_wp2_with fail
  refine HR.out.mono ?_
  rintro e w1 ⟨rfl, h⟩
  go_wp2
  go_ret
  exact ⟨rfl, thru (below_new w _) h⟩
theorem bad_empty : Calls Tryd.prog 49 #[.agg (relC n f)] w fun e w' => e = .returned (.bool false) ∧ Below w.heap.size w w' := by
  have := empty_any n f w hf
  rwa [hb] at this
theorem bad_irr : Calls Tryd.prog 50 #[.agg (relC n f)] w fun e w' => e = .returned (.bool false) ∧ Below w.heap.size w w' := by
  have := irr_any n f w hf
  rwa [hb] at this
theorem bad_acyclic (hT : Tab w) : Calls Tryd.prog 52 #[.agg (relC n f)] w fun e w' => e = .returned (.bool false) ∧ Below w.heap.size w w' := by
  have := acyclic_any n f w hf hT
  rwa [show topF n f = none by simp [topF, hb]] at this
theorem bad_plus (hT : Tab w) : Calls Tryd.prog 36 #[.agg (relC n f)] w fun e w' => e = .returned (.agg (relC 0 zf)) ∧ Below w.heap.size w w' := by
  have := plus_any n f w hf hT
  rwa [hb] at this
theorem bad_back (hT : Tab w) : Calls Tryd.prog 34 #[.agg (relC n f)] w fun e w' => e = .returned (.agg (relC 0 zf)) ∧ Below w.heap.size w w' := by
  have := back_any n f w hf hT
  rwa [hb] at this
theorem bad_from : Calls Tryd.prog 40 #[.agg (relC n f)] w fun e w' => e = .returned (.int .u64 0) ∧ Below w.heap.size w w' := by
  have := from_any n f w hf
  rwa [hb] at this
theorem bad_into (hT : Tab w) : Calls Tryd.prog 42 #[.agg (relC n f)] w fun e w' => e = .returned (.int .u64 0) ∧ Below w.heap.size w w' := by
  have := into_any n f w hf hT
  rwa [hb] at this
theorem bad_star (hT : Tab w) : Calls Tryd.prog 38 #[.agg (relC n f)] w fun e w' => e = .returned (.agg (relC 0 zf)) ∧ Below w.heap.size w w' := by
  have := star_any n f w hf hT
  rwa [show starR n f = zf by unfold starR; rw [hb]; exact cutF_zero _, hb] at this
theorem bad_has (a b : Int) : Calls Tryd.prog 29 #[.agg (relC n f), .int .i64 a, .int .i64 b] w fun e w' => e = .returned (.bool false) ∧ Below w.heap.size w w' := by
  have := relHas_any n f a b w hf
  rwa [show hasB n f a b = false by simp [hasB, hb]] at this
end
theorem wrong_low (n : Int) (f : Nat → Nat) (h : n < 0) : rightB n f = false := by
  rw [Bool.eq_false_iff]
  intro hc
  have := (rightB_iff.1 hc).1
  omega
theorem wrong_high (n : Int) (f : Nat → Nat) (h : 48 < n) : rightB n f = false := by
  rw [Bool.eq_false_iff]
  intro hc
  have := (rightB_iff.1 hc).1
  omega
theorem wrong_row {N : Nat} (f : Nat → Nat) (h : N ≤ 40) : rightB N (upd f N 1) = false := by
  rw [Bool.eq_false_iff]
  intro hc
  have := ((rgt_iff (f := upd f N 1)).1 hc).2 N (by omega) 0 (by simp [Bt, upd])
  omega
theorem wrong_item {N : Nat} (f : Nat → Nat) : rightB N (upd f 0 (f 0 ||| 2 ^ N)) = false := by
  rw [Bool.eq_false_iff]
  intro hc
  have := ((rgt_iff (f := upd f 0 (f 0 ||| 2 ^ N))).1 hc).2 0 (by omega) N (by simp [Bt, upd])
  omega
theorem wrongs_both {N : Nat} {A : Nat → Nat} (_Ar : Rgt N A) (A64 : R64 A) (w : World) : Calls Tryd.prog 25 #[.agg (relC N A), .agg (relC ((N : Int) + 1) zf)] w fun e w' => e = .returned (.tuple #[.agg (relC 0 zf), .int .i64 2]) ∧ Below w.heap.size w w' := by
  have := both_any N ((N : Int) + 1) A zf A64 zf_64 w
  unfold CombPost at this
  rwa [show combB N ((N : Int) + 1) A zf = false by simp only [combB]; rw [decide_eq_false (by omega)]; rfl] at this
theorem wrongs_less {N : Nat} {A : Nat → Nat} (_Ar : Rgt N A) (A64 : R64 A) (w : World) : Calls Tryd.prog 26 #[.agg (relC ((N : Int) + 1) zf), .agg (relC N A)] w fun e w' => e = .returned (.tuple #[.agg (relC 0 zf), .int .i64 2]) ∧ Below w.heap.size w w' := by
  have := less_any ((N : Int) + 1) N zf A zf_64 A64 w
  unfold CombPost at this
  rwa [show combB ((N : Int) + 1) N zf A = false by simp only [combB]; rw [decide_eq_false (by omega)]; rfl] at this
end Go.Proofs.YtnfkedcbhjbhkaaDoor
