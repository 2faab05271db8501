/- ParDeepLaw in one text, for the claim. -/
import Derived.Test.YtglbmiadgdadfaaPd4
import Derived.Test.YtglbmiadgdadfaaPd5
import Derived.Test.YtglbmiadgdadfaaPd13
import Derived.Test.YtglbmiadgdadfaaPd10
import Derived.Deep.DeepCutAuto

section
/- The law ParseDeep is true of any condition. -/
namespace Go.Proofs.Ytglbmiadgdadfaa
open Go.RowKit Go.Shelf
open Go.BigFrame

attribute [local go_sem] Oper.semAt_some
namespace PP
set_option maxRecDepth 100000 in
set_option maxHeartbeats 16000000 in
theorem deep_law (c : PX.CondD) (x : CV) (w : World) (h0 : CondR w x c) :
    Calls Try.prog 3 #[condV x] w fun e w' => e = .returned (.bool true) ∧ Below w.heap.size w w' := by
  obtain ⟨y, hxy, h⟩ := cv_of h0
  rw [hxy]
  clear hxy h0 x
  have B0 := (Below.refl w.heap.size w).alloc (Nat.le_refl _) (.cells y.cs 24)
  have z0 := heap_alloc_new w (.cells y.cs 24)
  have CS := size_any c y.cv 500 _ (by decide) (by decide) (h.below B0)
  have cc := c5_cells z0
  obtain ⟨c0, c1, c2, c3, c4⟩ := cc
  unfold C5.cs C5.cv condV at *
  simp only at B0 z0 CS c0 c1 c2 c3 c4 ⊢
  replace B0 := Lib.hid B0
  replace z0 := Lib.hid z0
  replace CS := Lib.hid CS
  go_enter Try.func3, Try.ntmps3
  go_wp2_with fail
  refine CS.out.mono ?_
  rintro e w1 ⟨⟨r, rfl, hr, hs⟩, B1⟩
  have H1 := Lib.hid (B0.out.trans (B1.mono B0.out.size))
  by_cases h5 : 500 ≤ r
  · have t1 : decide (500 ≤ (r : Int)) = true := by simp; omega
    clear hs hr B1
    replace h5 := Lib.hid h5
    go_wp2_with fail
    refine (awake_any _).mono ?_
    rintro e w2 ⟨rfl, B2⟩
    go_wp2
    go_ret
    exact ⟨rfl, H1.out.trans (B2.mono H1.out.size)⟩
  · have t1 : decide (500 ≤ (r : Int)) = false := by simp; omega
    have hd : PX.deep c ≤ 500 := by have := deep_le_size c; have := hs (by omega); omega
    have z1 := (B1.block _ (lt_of_heap z0.out)).trans z0.out
    have sc : Hid (∀ U, Below w1.heap.size w1 U → ∀ j v, #[Value.int .u8 y.k, .int .u8 y.t, .int .u8 y.n, .int .u8 y.v, .slice y.a y.l y.p].toList[j]? = some v → U.cell? (Addr.add ⟨w.heap.size, 0, none⟩ j) = some v) := Lib.hid fun U B j v hj => by
      rw [Go.WideShapes.add_plain, Nat.zero_add, cell_of_row _ _ j _ _ _ ((B.block _ (lt_of_heap z1)).trans z1), ← Array.getElem?_toList]; exact hj
    have hR1 : CondR w1 y.cv c := (h.below B0.out).below B1
    have D1 := Lib.hid fun U (B : Below w1.heap.size w1 U) => deep_any 500 c y.cv U hd (by decide) (hR1.below B)
    have D2 := Lib.hid fun U (B : Below w1.heap.size w1 U) => refDeep_any 500 c y.cv U hd (by decide) (hR1.below B)
    have AW := Lib.hid fun U => awake_any U
    unfold C5.cv condV at D1 D2
    simp only at D1 D2
    have q1 : ((PX.deep c : Int) == (PX.deep c : Int)) = true := by simp
    clear hs hr B1 z1 hR1 hd c0 c1 c2 c3 c4
    replace h5 := Lib.hid h5
    replace h := Lib.hid h
    go_wp2_with fail
    refine wp_region_below w1.heap.size w1 (by kernel_rfl) (by kernel_rfl) (Below.refl _ _) ?_
    repeat (first
      | (go_big_quiet_step (first
        | (intro _; exact rfl)
        | (intro hW; go_at_call 7; exact Calls.below_of hW (D1.out _ hW))
        | (intro hW; go_at_call 8; exact Calls.below_of hW (D2.out _ hW))
        | (intro hW; go_at_call 6; exact Calls.below_of hW (AW.out _))))
      | (refine wpQuiet_want rfl fun K hK => ?_
         first
           | refine quiet_loadS 24 (.tmp 1) rfl ⟨w.heap.size, 0, none⟩ rfl _ _ Try.underlying24 rfl (by kernel_rfl) sc.out (hK _ ?_)
         clear hK K
         simp only [Act.put, List.setIfInBounds_toArray, List.set_cons_succ, List.set_cons_zero]))
    refine wpQuiet_nil ?_
    intro w5 h5'
    replace h5' := Lib.hid (H1.out.trans (h5'.mono H1.out.size))
    go_wp2
    go_ret
    exact ⟨rfl, h5'.out⟩
end PP
end Go.Proofs.Ytglbmiadgdadfaa
end
