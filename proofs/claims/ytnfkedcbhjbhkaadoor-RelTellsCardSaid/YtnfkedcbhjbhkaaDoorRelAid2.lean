/- The laws' helpers: of, in. -/
import Derived.Test.YtnfkedcbhjbhkaaDoorRelAid
namespace Go.Proofs.YtnfkedcbhjbhkaaDoor
open Go.RowKit Go.Shelf

attribute [local go_sem] Oper.semAt_some

def ofF (n : Int) (ps : List (Int × Int)) : Nat → Nat := if ofB n ps then ofL ps else zf
def ofN (n : Int) (ps : List (Int × Int)) : Int := opN (ofB n ps) n

set_option maxHeartbeats 2000000 in
set_option maxRecDepth 100000 in
theorem lawOf_any (n : Int) (v : Value) (ps : List (Int × Int)) (w : World) (hs : PairSl w.heap.size w v ps) :
    Calls Tryd.prog 69 #[.int .i64 n, v] w fun e w' => e = .returned (.agg (relC (ofN n ps) (ofF n ps))) ∧ Below w.heap.size w w' := by
  have hZ := RelAt.new w 0 zf
  have hB : Below w.heap.size w (w.alloc (.cells (relC 0 zf) 26)) := (Below.refl _ w).alloc (Nat.le_refl _) _
  have HO := Lib.hid (relOf_any n v ps _ ((hs.below hB).mono (by simp)))
  unfold OfPost at HO
  change Hid (Calls _ _ _ _ fun e w' => e = .returned (.tuple #[.agg (relC (ofN n ps) (ofF n ps)), .int .i64 (opE (ofB n ps))]) ∧ _) at HO
  generalize ofN n ps = N at *
  generalize ofF n ps = F at *
  generalize opE (ofB n ps) = E at *
  clear hs
  go_enter Tryd.func69, Tryd.ntmps69
  go_wp2_with fail
  refine HO.out.mono ?_
  rintro e w1 ⟨rfl, hb⟩
  replace hZ := hZ.below hb (by simp)
  have hs1 := Lib.hid (show w.heap.size + 1 ≤ w1.heap.size by have := hb.size; simpa using this)
  replace hB := hB.trans (hb.mono hB.size)
  clear hb
  obtain ⟨W3, hs3, hR3, hO3⟩ := (RelAt.new w1 0 zf).put N F
  replace hZ := (hZ.alloc (.cells (relC 0 zf) 26)).only hO3 (by have := hs1.out; omega)
  replace hB := below_only (hB.alloc (by have := hs1.out; omega) (.cells (relC 0 zf) 26)) hO3 (by have := hs1.out; omega)
  have l3 := hR3.ld
  obtain ⟨W4, hs4, hR4, hO4⟩ := hZ.put N F
  clear hO3
  go_wp2
  refine bodyPost_ret (results_rel rfl _ _ _ _ _ rfl hR4) rfl ?_
  exact ⟨rfl, below_only hB hO4 (Nat.le_refl _)⟩

/-- Is each pair of a relation another one's? -/
def inB (n m : Int) (f g : Nat → Nat) : Bool := combB n m f g && (rightB n (cutF n (lessF f g)) && decide (fromK (cutF n (lessF f g)) n.toNat = 0))

set_option maxHeartbeats 2000000 in
set_option maxRecDepth 100000 in
theorem lawIn_any (n m : Int) (f g : Nat → Nat) (hf : R64 f) (hg : R64 g) (w : World) :
    Calls Tryd.prog 55 #[.agg (relC n f), .agg (relC m g)] w fun e w' => e = .returned (.bool (inB n m f g)) ∧ Below w.heap.size w w' := by
  have hA := (RelAt.new w n f).alloc (.cells (relC m g) 26)
  have hM := RelAt.new (w.alloc (.cells (relC n f) 26)) m g
  rw [World.size_alloc] at hM
  have hB : Below w.heap.size w ((w.alloc (.cells (relC n f) 26)).alloc (.cells (relC m g) 26)) := ((Below.refl _ w).alloc (Nat.le_refl _) _).alloc (by simp) _
  have l1 := hA.ld
  have l2 := hM.ld
  have HL := Lib.hid (less_any n m f g hf hg ((w.alloc (.cells (relC n f) 26)).alloc (.cells (relC m g) 26)))
  unfold CombPost at HL
  cases hc : combB n m f g
  · have hi := Lib.hid (show inB n m f g = false by simp [inB, hc])
    rw [hc] at HL
    change Hid (Calls _ _ _ _ fun e w' => e = .returned (.tuple #[.agg (relC 0 zf), .int .i64 2]) ∧ _) at HL
    clear hc
    go_enter Tryd.func55, Tryd.ntmps55
    go_wp2_with fail
    refine HL.out.mono ?_
    rintro e w1 ⟨rfl, hb⟩
    replace hB := hB.trans (hb.mono hB.size)
    clear hb
    obtain ⟨W3, hs3, hR3, hO3⟩ := (RelAt.new w1 0 zf).put 0 zf
    replace hB := below_only (hB.alloc hB.size (.cells (relC 0 zf) 26)) hO3 hB.size
    go_wp2
    go_ret
    rw [hi.out]
    exact ⟨rfl, hB⟩
  · have hi := Lib.hid (show inB n m f g = (rightB n (cutF n (lessF f g)) && decide (fromK (cutF n (lessF f g)) n.toNat = 0)) by simp [inB, hc])
    have h64 : R64 (cutF n (lessF f g)) := cutF_64 n (fun i => Nat.lt_of_le_of_lt Nat.and_le_left (hf i))
    rw [hc] at HL
    change Hid (Calls _ _ _ _ fun e w' => e = .returned (.tuple #[.agg (relC n (cutF n (lessF f g))), .int .i64 0]) ∧ _) at HL
    generalize cutF n (lessF f g) = F at *
    have HE := Lib.hid (fun w => empty_any n F w h64)
    generalize (rightB n F && decide (fromK F n.toNat = 0)) = b at *
    clear hc
    go_enter Tryd.func55, Tryd.ntmps55
    go_wp2_with fail
    refine HL.out.mono ?_
    rintro e w1 ⟨rfl, hb⟩
    replace hB := hB.trans (hb.mono hB.size)
    clear hb
    obtain ⟨W3, hs3, hR3, hO3⟩ := (RelAt.new w1 0 zf).put n F
    replace hB := below_only (hB.alloc hB.size (.cells (relC 0 zf) 26)) hO3 hB.size
    have l3 := hR3.ld
    go_wp2_with fail
    refine (HE.out _).mono ?_
    rintro e w4 ⟨rfl, hb⟩
    go_wp2
    go_ret
    rw [hi.out]
    exact ⟨rfl, hB.trans (hb.mono hB.size)⟩
end Go.Proofs.YtnfkedcbhjbhkaaDoor
