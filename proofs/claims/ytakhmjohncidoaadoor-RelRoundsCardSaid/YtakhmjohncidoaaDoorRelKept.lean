/- What a law's walk keeps: relations in memory, each with its own number of items. -/
import Derived.Test.YtakhmjohncidoaaDoorRelKeep
namespace Go.Proofs.YtakhmjohncidoaaDoor
open Go.RowKit Go.Shelf

/-- Relations in memory, each with its own number of items. -/
def Kept (w W : World) (l : List (Nat × Int × (Nat → Nat))) : Prop := Below w.heap.size w W ∧ ∀ p ∈ l, RelAt W p.1 p.2.1 p.2.2
theorem Kept.on {w W W' : World} {l : List (Nat × Int × (Nat → Nat))} (h : Kept w W l) (hb : Below W.heap.size W W') : Kept w W' l := ⟨thru h.1 hb, fun p hp => (h.2 p hp).on hb⟩
theorem Kept.tab {w W : World} {l : List (Nat × Int × (Nat → Nat))} (h : Kept w W l) (hT : Tab w) : Tab W := hT.below h.1 hT.pos
theorem Kept.cons {w W : World} {b : Nat} {n : Int} {f : Nat → Nat} {l : List (Nat × Int × (Nat → Nat))} (h : Kept w W l) (hR : RelAt W b n f) : Kept w W ((b, n, f) :: l) := ⟨h.1, fun p hp => by
  rcases List.mem_cons.1 hp with rfl | hp
  · exact hR
  · exact h.2 p hp⟩
theorem Kept.at {w W : World} {b : Nat} {n : Int} {f : Nat → Nat} {l : List (Nat × Int × (Nat → Nat))} (h : Kept w W l) (hp : (b, n, f) ∈ l) : RelAt W b n f := h.2 _ hp
theorem Kept.only {w W W' : World} {b : Nat} {l : List (Nat × Int × (Nat → Nat))} (h : Kept w W l) (hO : Only b W W') (hb : w.heap.size ≤ b) (hl : ∀ p ∈ l, p.1 ≠ b) : Kept w W' l :=
  ⟨below_only h.1 hO hb, fun p hp => (h.2 p hp).only hO (hl p hp)⟩
theorem Kept.set {w W : World} {l : List (Nat × Int × (Nat → Nat))} (h : Kept w W l) (a : Addr) (v : Value) (hb : w.heap.size ≤ a.block) (hl : ∀ p ∈ l, p.1 ≠ a.block) : Kept w (W.setCell a v) l :=
  h.only (Only.setCell W a v) hb hl
theorem Kept.lts {w W : World} {l : List (Nat × Int × (Nat → Nat))} (h : Kept w W l) : ∀ p ∈ l, p.1 < W.heap.size := fun p hp => (h.2 p hp).lt
theorem Kept.drew {w W : World} {l : List (Nat × Int × (Nat → Nat))} (h : Kept w W l) : Kept w W.drew l := ⟨⟨h.1.os, h.1.tape, h.1.output, h.1.size, h.1.block⟩, fun p hp => (h.2 p hp).drew⟩
theorem Kept.nil (w : World) : Kept w w [] := ⟨Below.refl _ _, fun _ h => by cases h⟩
theorem Kept.less {w W : World} {l l' : List (Nat × Int × (Nat → Nat))} (h : Kept w W l) (hl : ∀ p ∈ l', p ∈ l) : Kept w W l' := ⟨h.1, fun p hp => h.2 p (hl p hp)⟩
end Go.Proofs.YtakhmjohncidoaaDoor
