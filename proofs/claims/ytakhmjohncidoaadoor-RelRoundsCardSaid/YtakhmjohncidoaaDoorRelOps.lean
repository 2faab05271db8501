/- rel.Union, Both, Less, whole. -/
import Derived.Test.YtakhmjohncidoaaDoorRelComb
namespace Go.Proofs.YtakhmjohncidoaaDoor
open Go.RowKit Go.Shelf

attribute [local go_sem] Oper.semAt_some

set_option maxHeartbeats 1000000 in
set_option maxRecDepth 100000 in
theorem union_any (n m : Int) (f g : Nat → Nat) (hf : R64 f) (hg : R64 g) (w : World) :
    Calls Tryd.prog 14 #[.agg (relC n f), .agg (relC m g)] w (CombPost (combB n m f g) n (unionF f g) w) := by
  have hA : RelAt (((w.alloc (.cells (relC n f) 26)).alloc (.cells (relC m g) 26)).alloc (.cells (relC 0 zf) 26)) w.heap.size n f := ((RelAt.new w n f).alloc _).alloc _
  have hM : RelAt (((w.alloc (.cells (relC n f) 26)).alloc (.cells (relC m g) 26)).alloc (.cells (relC 0 zf) 26)) (w.heap.size + 1) m g := by
    have := (RelAt.new (w.alloc (.cells (relC n f) 26)) m g).alloc (.cells (relC 0 zf) 26)
    rwa [World.size_alloc] at this
  have hZ : RelAt (((w.alloc (.cells (relC n f) 26)).alloc (.cells (relC m g) 26)).alloc (.cells (relC 0 zf) 26)) (w.heap.size + 1 + 1) 0 zf := by
    have := (RelAt.new ((w.alloc (.cells (relC n f) 26)).alloc (.cells (relC m g) 26)) 0 zf)
    rwa [World.size_alloc, World.size_alloc] at this
  have hB : Below w.heap.size w (((w.alloc (.cells (relC n f) 26)).alloc (.cells (relC m g) 26)).alloc (.cells (relC 0 zf) 26)) :=
    (((Below.refl _ w).alloc (Nat.le_refl _) _).alloc (by simp) _).alloc (by simp; omega) _
  have Hs := Lib.hid (show (((w.alloc (.cells (relC n f) 26)).alloc (.cells (relC m g) 26)).alloc (.cells (relC 0 zf) 26)).heap.size = w.heap.size + 3 by simp)
  have HC := Lib.hid (combine_any n m f g hf hg 55 #[.pointer (some ⟨w.heap.size, 0, none⟩), .pointer (some ⟨w.heap.size + 1, 0, none⟩)] (unionF f g) (((w.alloc (.cells (relC n f) 26)).alloc (.cells (relC m g) 26)).alloc (.cells (relC 0 zf) 26))
    (enters_of Tryd.func55 (by kernel_rfl) rfl)
    (fun hc W k hk hb => by
      have hn := (rightB_iff.1 (combB_iff.1 hc).2.1).1
      refine (union1_any n m f g hf hg w.heap.size (w.heap.size + 1) k (by omega) W (hA.below hb (by rw [Hs.out]; omega)) (hM.below hb (by rw [Hs.out]; omega))).mono ?_
      rintro e W' ⟨he, hb'⟩
      exact ⟨he, hb'⟩))
  have l1 := hA.ld
  have l2 := hM.ld
  go_enter Tryd.func14, Tryd.ntmps14
  go_wp2_with fail
  refine HC.out.mono ?_
  rintro e W1 ⟨rfl, hb⟩
  replace hZ := hZ.below hb (by rw [Hs.out]; omega)
  replace hB := hB.trans (hb.mono hB.size)
  clear hb l1 l2
  obtain ⟨W3, hs3, hR3, hO3⟩ := hZ.put (opN (combB n m f g) n) (opF (combB n m f g) n (unionF f g))
  go_wp2
  exact bodyPost_ret (results_rel2 rfl _ _ _ _ _ rfl hR3) rfl ⟨rfl, below_only hB hO3 (by omega)⟩

set_option maxHeartbeats 1000000 in
set_option maxRecDepth 100000 in
theorem both_any (n m : Int) (f g : Nat → Nat) (hf : R64 f) (hg : R64 g) (w : World) :
    Calls Tryd.prog 15 #[.agg (relC n f), .agg (relC m g)] w (CombPost (combB n m f g) n (bothF f g) w) := by
  have hA : RelAt (((w.alloc (.cells (relC n f) 26)).alloc (.cells (relC m g) 26)).alloc (.cells (relC 0 zf) 26)) w.heap.size n f := ((RelAt.new w n f).alloc _).alloc _
  have hM : RelAt (((w.alloc (.cells (relC n f) 26)).alloc (.cells (relC m g) 26)).alloc (.cells (relC 0 zf) 26)) (w.heap.size + 1) m g := by
    have := (RelAt.new (w.alloc (.cells (relC n f) 26)) m g).alloc (.cells (relC 0 zf) 26)
    rwa [World.size_alloc] at this
  have hZ : RelAt (((w.alloc (.cells (relC n f) 26)).alloc (.cells (relC m g) 26)).alloc (.cells (relC 0 zf) 26)) (w.heap.size + 1 + 1) 0 zf := by
    have := (RelAt.new ((w.alloc (.cells (relC n f) 26)).alloc (.cells (relC m g) 26)) 0 zf)
    rwa [World.size_alloc, World.size_alloc] at this
  have hB : Below w.heap.size w (((w.alloc (.cells (relC n f) 26)).alloc (.cells (relC m g) 26)).alloc (.cells (relC 0 zf) 26)) :=
    (((Below.refl _ w).alloc (Nat.le_refl _) _).alloc (by simp) _).alloc (by simp; omega) _
  have Hs := Lib.hid (show (((w.alloc (.cells (relC n f) 26)).alloc (.cells (relC m g) 26)).alloc (.cells (relC 0 zf) 26)).heap.size = w.heap.size + 3 by simp)
  have HC := Lib.hid (combine_any n m f g hf hg 56 #[.pointer (some ⟨w.heap.size, 0, none⟩), .pointer (some ⟨w.heap.size + 1, 0, none⟩)] (bothF f g) (((w.alloc (.cells (relC n f) 26)).alloc (.cells (relC m g) 26)).alloc (.cells (relC 0 zf) 26))
    (enters_of Tryd.func56 (by kernel_rfl) rfl)
    (fun hc W k hk hb => by
      have hn := (rightB_iff.1 (combB_iff.1 hc).2.1).1
      refine (both1_any n m f g hf hg w.heap.size (w.heap.size + 1) k (by omega) W (hA.below hb (by rw [Hs.out]; omega)) (hM.below hb (by rw [Hs.out]; omega))).mono ?_
      rintro e W' ⟨he, hb'⟩
      exact ⟨he, hb'⟩))
  have l1 := hA.ld
  have l2 := hM.ld
  go_enter Tryd.func15, Tryd.ntmps15
  go_wp2_with fail
  refine HC.out.mono ?_
  rintro e W1 ⟨rfl, hb⟩
  replace hZ := hZ.below hb (by rw [Hs.out]; omega)
  replace hB := hB.trans (hb.mono hB.size)
  clear hb l1 l2
  obtain ⟨W3, hs3, hR3, hO3⟩ := hZ.put (opN (combB n m f g) n) (opF (combB n m f g) n (bothF f g))
  go_wp2
  exact bodyPost_ret (results_rel2 rfl _ _ _ _ _ rfl hR3) rfl ⟨rfl, below_only hB hO3 (by omega)⟩

set_option maxHeartbeats 1000000 in
set_option maxRecDepth 100000 in
theorem less_any (n m : Int) (f g : Nat → Nat) (hf : R64 f) (hg : R64 g) (w : World) :
    Calls Tryd.prog 16 #[.agg (relC n f), .agg (relC m g)] w (CombPost (combB n m f g) n (lessF f g) w) := by
  have hA : RelAt (((w.alloc (.cells (relC n f) 26)).alloc (.cells (relC m g) 26)).alloc (.cells (relC 0 zf) 26)) w.heap.size n f := ((RelAt.new w n f).alloc _).alloc _
  have hM : RelAt (((w.alloc (.cells (relC n f) 26)).alloc (.cells (relC m g) 26)).alloc (.cells (relC 0 zf) 26)) (w.heap.size + 1) m g := by
    have := (RelAt.new (w.alloc (.cells (relC n f) 26)) m g).alloc (.cells (relC 0 zf) 26)
    rwa [World.size_alloc] at this
  have hZ : RelAt (((w.alloc (.cells (relC n f) 26)).alloc (.cells (relC m g) 26)).alloc (.cells (relC 0 zf) 26)) (w.heap.size + 1 + 1) 0 zf := by
    have := (RelAt.new ((w.alloc (.cells (relC n f) 26)).alloc (.cells (relC m g) 26)) 0 zf)
    rwa [World.size_alloc, World.size_alloc] at this
  have hB : Below w.heap.size w (((w.alloc (.cells (relC n f) 26)).alloc (.cells (relC m g) 26)).alloc (.cells (relC 0 zf) 26)) :=
    (((Below.refl _ w).alloc (Nat.le_refl _) _).alloc (by simp) _).alloc (by simp; omega) _
  have Hs := Lib.hid (show (((w.alloc (.cells (relC n f) 26)).alloc (.cells (relC m g) 26)).alloc (.cells (relC 0 zf) 26)).heap.size = w.heap.size + 3 by simp)
  have HC := Lib.hid (combine_any n m f g hf hg 57 #[.pointer (some ⟨w.heap.size, 0, none⟩), .pointer (some ⟨w.heap.size + 1, 0, none⟩)] (lessF f g) (((w.alloc (.cells (relC n f) 26)).alloc (.cells (relC m g) 26)).alloc (.cells (relC 0 zf) 26))
    (enters_of Tryd.func57 (by kernel_rfl) rfl)
    (fun hc W k hk hb => by
      have hn := (rightB_iff.1 (combB_iff.1 hc).2.1).1
      refine (less1_any n m f g hf hg w.heap.size (w.heap.size + 1) k (by omega) W (hA.below hb (by rw [Hs.out]; omega)) (hM.below hb (by rw [Hs.out]; omega))).mono ?_
      rintro e W' ⟨he, hb'⟩
      exact ⟨he, hb'⟩))
  have l1 := hA.ld
  have l2 := hM.ld
  go_enter Tryd.func16, Tryd.ntmps16
  go_wp2_with fail
  refine HC.out.mono ?_
  rintro e W1 ⟨rfl, hb⟩
  replace hZ := hZ.below hb (by rw [Hs.out]; omega)
  replace hB := hB.trans (hb.mono hB.size)
  clear hb l1 l2
  obtain ⟨W3, hs3, hR3, hO3⟩ := hZ.put (opN (combB n m f g) n) (opF (combB n m f g) n (lessF f g))
  go_wp2
  exact bodyPost_ret (results_rel2 rfl _ _ _ _ _ rfl hR3) rfl ⟨rfl, below_only hB hO3 (by omega)⟩
end Go.Proofs.YtakhmjohncidoaaDoor
