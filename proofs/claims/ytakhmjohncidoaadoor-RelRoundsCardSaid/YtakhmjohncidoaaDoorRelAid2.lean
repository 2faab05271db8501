/- The laws' helpers: of, in. -/
import Derived.Test.YtakhmjohncidoaaDoorRelAid
namespace Go.Proofs.YtakhmjohncidoaaDoor
open Go.RowKit Go.Shelf

attribute [local go_sem] Oper.semAt_some

def ofF (n : Int) (ps : List (Int × Int)) : Nat → Nat := if ofB n ps then ofL ps else zf
def ofN (n : Int) (ps : List (Int × Int)) : Int := opN (ofB n ps) n

set_option maxHeartbeats 2000000 in
set_option maxRecDepth 100000 in
theorem lawOf_any (n : Int) (v : Value) (ps : List (Int × Int)) (w : World) (hs : PairSl w.heap.size w v ps) :
    Calls Tryd.prog 44 #[.int .i64 n, v] w fun e w' => e = .returned (.agg (relC (ofN n ps) (ofF n ps))) ∧ Below w.heap.size w w' := by
  have hZ := RelAt.new w 0 zf
  have hB : Below w.heap.size w (w.alloc (.cells (relC 0 zf) 26)) := (Below.refl _ w).alloc (Nat.le_refl _) _
  have HO := Lib.hid (relOf_any n v ps _ ((hs.below hB).mono (by simp)))
  unfold OfPost at HO
  change Hid (Calls _ _ _ _ fun e w' => e = .returned (.tuple #[.agg (relC (ofN n ps) (ofF n ps)), .int .i64 (opE (ofB n ps))]) ∧ _) at HO
  generalize ofN n ps = N at *
  generalize ofF n ps = F at *
  generalize opE (ofB n ps) = E at *
  clear hs
  go_enter Tryd.func44, Tryd.ntmps44
  go_wp2_with fail
  refine HO.out.mono ?_
  rintro e w1 ⟨rfl, hb⟩
  replace hZ := hZ.below hb (by simp)
  have hs1 := Lib.hid (show w.heap.size + 1 ≤ w1.heap.size by have := hb.size; simpa using this)
  replace hB := hB.trans (hb.mono hB.size)
  clear hb
  obtain ⟨W3, hs3, hR3, hO3⟩ := (RelAt.new w1 0 zf).put N F
  replace hZ := (hZ.alloc (.cells (relC 0 zf) 26)).only hO3 (by have := hs1.out; omega)
  replace hB := below_only (hB.alloc (by have := hs1.out; omega) (.cells (relC 0 zf) 26)) hO3 (by have := hs1.out; omega)
  have l3 := hR3.ld
  obtain ⟨W4, hs4, hR4, hO4⟩ := hZ.put N F
  clear hO3
  go_wp2
  refine bodyPost_ret (results_rel rfl _ _ _ _ _ rfl hR4) rfl ?_
  exact ⟨rfl, below_only hB hO4 (Nat.le_refl _)⟩

/-- Is each pair of a relation another one's? -/
def inB (n m : Int) (f g : Nat → Nat) : Bool := combB n m f g && (rightB n (cutF n (lessF f g)) && decide (fromK (cutF n (lessF f g)) n.toNat = 0))

end Go.Proofs.YtakhmjohncidoaaDoor
