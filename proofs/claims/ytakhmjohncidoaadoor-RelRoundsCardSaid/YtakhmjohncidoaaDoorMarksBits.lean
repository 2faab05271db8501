/- The library's table of the lowest bit, and what marks.elements$1 calls. -/
import Derived.Test.YtakhmjohncidoaaDoorMarksMath
import Derived.Test.YtakhmjohncidoaaDoorProg
import Derived.ProofKit
import Derived.WalkSpells
import Derived.WalkLawsBesides
namespace Go.Proofs.YtakhmjohncidoaaDoor
open Go.RowKit

/-- The table of math/bits lies in the world as the library lays it. -/
def Tab (W : World) : Prop := ∀ i k : Nat, MM.tab[i]? = some k → W.cell? ⟨0, i, none⟩ = some (.int .u8 k)

theorem Tab.pos {W : World} (h : Tab W) : 0 < W.heap.size := by
  have h0 := h 0 0 rfl
  by_cases hs : 0 < W.heap.size
  · exact hs
  · simp [World.cell?, Array.getElem?_eq_none (show W.heap.size ≤ 0 by omega)] at h0

theorem Tab.below {n : Nat} {W W' : World} (h : Tab W) (hb : Below n W W') (hn : 0 < n) : Tab W' :=
  fun i k hk => (hb.cell (p := ⟨0, i, none⟩) hn).trans (h i k hk)

set_option maxHeartbeats 400000 in
theorem tz_any (x : Int) (k : Nat) (w : World) (h0 : 0 < x) (h1 : x < 18446744073709551616) (hi0 : 0 ≤ tzIx x) (hi1 : tzIx x < 64)
    (hc : w.cell? ⟨0, (tzIx x).toNat, none⟩ = some (.int .u8 k)) (hk : k < 64) :
    Calls Tryd.prog 75 #[.int .u64 x] w fun e w' => e = .returned (.int .i64 k) ∧ w = w' := by
  have hx : (x == 0) = false := by simp; omega
  unfold tzIx at hi0 hi1 hc
  go_enter Tryd.func75, Tryd.ntmps75
  go_wp2
  go_ret
  exact ⟨rfl, rfl⟩
end Go.Proofs.YtakhmjohncidoaaDoor
