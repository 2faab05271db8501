/- What a law's walk keeps: relations in memory. -/
import Derived.Test.YtakhmjohncidoaaDoorRelOk
namespace Go.Proofs.YtakhmjohncidoaaDoor
open Go.RowKit Go.Shelf

/-- What the walk keeps: relations in memory. -/
def Keeps (w W : World) (N : Nat) (l : List (Nat × (Nat → Nat))) : Prop := Below w.heap.size w W ∧ ∀ p ∈ l, RelAt W p.1 N p.2
theorem Keeps.on {w W W' : World} {N : Nat} {l : List (Nat × (Nat → Nat))} (h : Keeps w W N l) (hb : Below W.heap.size W W') : Keeps w W' N l := ⟨thru h.1 hb, fun p hp => (h.2 p hp).on hb⟩
theorem Keeps.tab {w W : World} {N : Nat} {l : List (Nat × (Nat → Nat))} (h : Keeps w W N l) (hT : Tab w) : Tab W := hT.below h.1 hT.pos
theorem Keeps.cons {w W : World} {N b : Nat} {f : Nat → Nat} {l : List (Nat × (Nat → Nat))} (h : Keeps w W N l) (hR : RelAt W b N f) : Keeps w W N ((b, f) :: l) := ⟨h.1, fun p hp => by
  rcases List.mem_cons.1 hp with rfl | hp
  · exact hR
  · exact h.2 p hp⟩
theorem Keeps.at {w W : World} {N b : Nat} {f : Nat → Nat} {l : List (Nat × (Nat → Nat))} (h : Keeps w W N l) (hp : (b, f) ∈ l) : RelAt W b N f := h.2 _ hp
theorem Keeps.only {w W W' : World} {N b : Nat} {l : List (Nat × (Nat → Nat))} (h : Keeps w W N l) (hO : Only b W W') (hb : w.heap.size ≤ b) (hl : ∀ p ∈ l, p.1 < b) : Keeps w W' N l :=
  ⟨below_only h.1 hO hb, fun p hp => (h.2 p hp).only hO (by have := hl p hp; omega)⟩
theorem Keeps.lts {w W : World} {N : Nat} {l : List (Nat × (Nat → Nat))} (h : Keeps w W N l) : ∀ p ∈ l, p.1 < W.heap.size := fun p hp => (h.2 p hp).lt
theorem Keeps.nil (w : World) (N : Nat) : Keeps w w N [] := ⟨Below.refl _ _, fun _ h => by cases h⟩

theorem tab_on {W W' : World} (h : Tab W) (hb : Below W.heap.size W W') : Tab W' := h.below hb h.pos
theorem tab_new {W : World} (h : Tab W) (o : Obj) : Tab (W.alloc o) := tab_on h (below_new W o)
theorem undrew {B : Nat} {W W' : World} (h : Below B W.drew W') : Below B W W' := ⟨h.os, h.tape, h.output, h.size, h.block⟩
/-- Two new relations, laid. -/
theorem lay2 (W : World) (n : Int) (f g : Nat → Nat) : ∃ W1 W2, (stRel (.pointer (some ⟨W.heap.size, 0, none⟩)) (.agg (relC n f))).run Tryd.prog ((W.alloc (.cells (relC 0 zf) 26)).alloc (.cells (relC 0 zf) 26)) = .ok () W1 ∧
    (stRel (.pointer (some ⟨W.heap.size + 1, 0, none⟩)) (.agg (relC n g))).run Tryd.prog W1 = .ok () W2 ∧ RelAt W2 W.heap.size n f ∧ RelAt W2 (W.heap.size + 1) n g ∧ Below W.heap.size W W2 := by
  obtain ⟨W1, h1, h2, h3⟩ := ((RelAt.new W 0 zf).alloc (.cells (relC 0 zf) 26)).put n f
  have hq := RelAt.new (W.alloc (.cells (relC 0 zf) 26)) 0 zf
  rw [World.size_alloc] at hq
  have hB : Below W.heap.size W ((W.alloc (.cells (relC 0 zf) 26)).alloc (.cells (relC 0 zf) 26)) := ((Below.refl _ W).alloc (Nat.le_refl _) _).alloc (by simp) _
  replace hB := below_only hB h3 (Nat.le_refl _)
  replace hq := hq.only h3 (by omega)
  obtain ⟨W2, g1, g2, g3⟩ := hq.put n g
  exact ⟨W1, W2, h1, g1, h2.only g3 (by omega), g2, below_only hB g3 (by omega)⟩
end Go.Proofs.YtakhmjohncidoaaDoor
