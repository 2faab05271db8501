/- The law of definitions: the walk. -/
import Derived.Deep.RegionWith
import Derived.Deep.QuietTactic
import Derived.Deep.DeepCutAuto
import Derived.Deep.RegionHeld3
import Derived.Deep.DrawnRows
import Derived.Test.YtnfkedcbhjbhkaaDoorRelTellsAid
import Derived.Test.YtnfkedcbhjbhkaaDoorRelAwake2
namespace Go.Proofs.YtnfkedcbhjbhkaaDoor
open Go.RowKit Go.Shelf Go.BigFrame

attribute [local go_sem] Oper.semAt_some
attribute [local go_sem ↓] Go.wp_at_zero Go.wp_at_succ

set_option maxRecDepth 100000 in
set_option maxHeartbeats 8000000 in
theorem tells_law (nx ny : Int) (fx fy : Nat → Nat) (hx : R64 fx) (hy : R64 fy) (n : Int) (s t : Nat) (hs : s < 2 ^ 64) (ht : t < 2 ^ 64) (v : Value) (ps : List (Int × Int)) (w : World) (hps : PairSl w.heap.size w v ps) (hT : Tab w) :
    Calls Tryd.prog 3 #[.agg (relC nx fx), .agg (relC ny fy), .int .i64 n, .int .u64 (s : Int), .int .u64 (t : Int), v] w fun e w' => e = .returned (.bool true) ∧ Below w.heap.size w w' := by
  have hp := hT.pos
  have hA := (RelAt.new w nx fx).alloc (.cells (relC ny fy) 26)
  have hM := RelAt.new (w.alloc (.cells (relC nx fx) 26)) ny fy
  rw [World.size_alloc] at hM
  have hBl := thru (below_new w (.cells (relC nx fx) 26)) (below_new _ (.cells (relC ny fy) 26))
  have hX : Kept w ((w.alloc (.cells (relC nx fx) 26)).alloc (.cells (relC ny fy) 26)) [(w.heap.size + 1, ny, fy), (w.heap.size, nx, fx)] := by
    refine ⟨hBl, ?_⟩
    simp only [List.mem_cons, List.not_mem_nil, or_false]
    rintro p (rfl | rfl)
    · exact hM
    · exact hA
  have hpl := hps.1
  obtain ⟨-, pa, pc, rfl, -⟩ := id hps
  replace hps := Lib.hid hps
  clear hA hM hBl
  go_enter Tryd.func3, Tryd.ntmps3
  by_cases h60 : 60 < ps.length
  · have hX' := Lib.hid hX
    clear hX
    go_wp2_with fail
    refine (awake_any _ (hX'.out.tab hT)).mono ?_
    rintro e w1 ⟨rfl, h⟩
    have hX2 := hX'.out.on h
    go_wp2
    go_ret
    exact ⟨rfl, hX2.1⟩
  · go_upto_region 3 with fail
    generalize (w.alloc (.cells (relC nx fx) 26)).alloc (.cells (relC ny fy) 26) = wa at *
    have c1 := Lib.hid (right_any nx fx · hx)
    have c2 := Lib.hid (refRight_any nx fx hx)
    generalize rightB nx fx = rb at *
    have ebb : (rb != rb) = false := by simp
    have r1 := Lib.hid (fun W (h : Below wa.heap.size wa W) => (hX.at (b := w.heap.size) (n := nx) (f := fx) (by simp)).on h)
    have hXh := Lib.hid hX
    clear hX
    go_cut [31] (fun v W => v = .bool false ∧ Below wa.heap.size wa W)
    case first =>
      refine wp_region_below wa.heap.size wa (by kernel_rfl) (by kernel_rfl) (Below.refl _ _) ?_
      repeat (first
        | go_big_quiet_step (first
          | (intro _; exact rfl)
          | (intro hW; go_at_call 16; exact Calls.below_of hW (c1.out _))
          | (intro hW; go_at_call 17; exact Calls.below_of hW (c2.out _)))
        | (refine wpQuiet_want rfl fun K hK => ?_
           refine quiet_loadRel (.tmp 6) rfl _ rfl _ _ r1.out (hK _ ?_)
           clear hK K
           simp only [Act.put, List.setIfInBounds_toArray, List.set_cons_succ, List.set_cons_zero]))
      refine wpQuiet_nil ?_
      intro w2 hB2
      go_wp2
      go_meet
      exact ⟨rfl, hB2⟩
    case rest =>
      obtain ⟨rfl, hBc⟩ := hcut
      have hX := hXh.out.on hBc
      have hps2 := Lib.hid ((hps.out.below hX.1).mono hX.1.size)
      clear c1 c2 r1 hXh hBc
      obtain ⟨N1, F1, b1, o1, o2⟩ := of_both n ps
      have z1 : (opE b1 == 0) = b1 := by cases b1 <;> rfl
      have z2 : b1 = false → (opE b1 != 2) = false := by rintro rfl; rfl
      generalize opE b1 = ev1 at *
      replace z1 := Lib.hid z1
      replace z2 := Lib.hid z2
      replace o1 := Lib.hid o1
      replace o2 := Lib.hid o2
      go_wp2_with fail
      refine (o1.out _ _ hps2.out).mono ?_
      rintro e w2 ⟨rfl, h⟩
      replace hX := hX.on h
      clear h hps2
      obtain ⟨W2, hs2, hu, h, -⟩ := Ex.lay w2 N1 F1
      replace hX := (hX.on h).cons hu
      have hps2 := Lib.hid ((hps.out.below hX.1).mono hX.1.size)
      clear h hu
      go_wp2_with fail
      clear hs2
      refine (o2.out _ _ hps2.out).mono ?_
      rintro e w3 ⟨rfl, h⟩
      replace hX := hX.on h
      clear h hps2
      obtain ⟨W3, hs3, hu, h, -⟩ := Ex.lay w3 N1 F1
      replace hX := (hX.on h).cons hu
      clear h hu
      go_upto_region 7 with fail
      clear hs3 o1 o2
      have eF : relB N1 N1 F1 F1 = true := relB_same (fun _ _ => rfl)
      obtain ⟨N2, F2, G2, e2, d1, d2⟩ := id_both n s hs
      obtain ⟨N3, F3, G3, e3, d3, d4⟩ := cross_both n s t hs ht
      replace d1 := Lib.hid d1
      replace d2 := Lib.hid d2
      replace d3 := Lib.hid d3
      replace d4 := Lib.hid d4
      have hXh := Lib.hid hX
      clear hX
      go_cut [80] (fun v W => v = .bool false ∧ Kept w W [(w.heap.size + 1, ny, fy), (w.heap.size, nx, fx)])
      case first =>
        have l1 := (hXh.out.at (b := w2.heap.size) (n := N1) (f := F1) (by simp)).ld
        have l2 := (hXh.out.at (b := w3.heap.size) (n := N1) (f := F1) (by simp)).ld
        have z3 := z1.out
        have z4 := z2.out
        cases b1
        all_goals
          try replace z4 := z4 rfl
          go_wp2_with fail
          refine (d1.out _ (hXh.out.tab hT)).mono ?_
          rintro e w4 ⟨rfl, h4⟩
          have hX4 := hXh.out.on h4
          clear h4
          go_wp2_with fail
          refine (d2.out _).mono ?_
          rintro e w5 ⟨rfl, h5⟩
          replace hX4 := hX4.on h5
          clear h5
          go_wp2_with fail
          refine (d3.out _ (hX4.tab hT)).mono ?_
          rintro e w6 ⟨rfl, h6⟩
          replace hX4 := hX4.on h6
          clear h6
          go_wp2_with fail
          refine (d4.out _).mono ?_
          rintro e w7 ⟨rfl, h7⟩
          replace hX4 := hX4.on h7
          clear h7
          go_wp2
          go_meet
          exact ⟨rfl, hX4.less (by simp)⟩
      case rest =>
        clear e2 e3 d1 d2 d3 d4 eF hXh z1 z2
        obtain ⟨rfl, hX⟩ := hcut
        have n1 := (hX.at (b := w.heap.size) (n := nx) (f := fx) (by simp)).num
        have n2 := (hX.at (b := w.heap.size + 1) (n := ny) (f := fy) (by simp)).num
        have hcase : 12 < nx ∨ (nx ≤ 12 ∧ 12 < ny) ∨ (nx ≤ 12 ∧ ny ≤ 12) := by omega
        have hXh := Lib.hid hX
        clear hX
        rcases hcase with h1 | ⟨h1, h2⟩ | ⟨h1, h2⟩
        · go_wp2_with fail
          refine (awake_any _ (hXh.out.tab hT)).mono ?_
          rintro e w8 ⟨rfl, h⟩
          have hX2 := hXh.out.on h
          go_wp2
          go_ret
          exact ⟨rfl, hX2.1⟩
        · go_wp2_with fail
          refine (awake_any _ (hXh.out.tab hT)).mono ?_
          rintro e w8 ⟨rfl, h⟩
          have hX2 := hXh.out.on h
          go_wp2
          go_ret
          exact ⟨rfl, hX2.1⟩
        · obtain ⟨t0, t1, t2, t3⟩ := two_both nx ny fx fy hx hy
          replace t0 := Lib.hid t0
          replace t1 := Lib.hid t1
          replace t2 := Lib.hid t2
          replace t3 := Lib.hid t3
          go_wp2
          have hXL := Lib.hid (hXh.out.on (below_new wc (.cells #[.func (.func 24) #[] #[], .func (.func 25) #[] #[], .func (.func 26) #[] #[], .func (.func 27) #[] #[]] 37)))
          have hcell : ∀ j, j < 4 → (wc.alloc (.cells #[.func (.func 24) #[] #[], .func (.func 25) #[] #[], .func (.func 26) #[] #[], .func (.func 27) #[] #[]] 37)).cell? ⟨wc.heap.size, j, none⟩ = #[Value.func (.func 24) #[] #[], .func (.func 25) #[] #[], .func (.func 26) #[] #[], .func (.func 27) #[] #[]][j]? := fun j _ => by
            rw [cell_of_row _ _ _ _ _ _ (heap_alloc_new wc _)]
          have hszL : wc.heap.size < (wc.alloc (.cells #[.func (.func 24) #[] #[], .func (.func 25) #[] #[], .func (.func 26) #[] #[], .func (.func 27) #[] #[]] 37)).heap.size := by simp
          generalize wc.alloc (.cells #[.func (.func 24) #[] #[], .func (.func 25) #[] #[], .func (.func 26) #[] #[], .func (.func 27) #[] #[]] 37) = wL at *
          replace hcell := Lib.hid hcell
          go_loopw [92] (fun i W => ∃ k : Nat, k ≤ 4 ∧ i = .int .i64 k ∧ Below wL.heap.size wL W) (fun i _ => 4 - (intOf i).toNat)
          case atStart => exact ⟨0, by omega, rfl, Below.refl _ _⟩
          case round =>
            obtain ⟨k, hk, rfl, hBr⟩ := hrel
            have hXr := Lib.hid (hXL.out.on hBr)
            have hBrh := Lib.hid hBr
            have hk4 : k = 0 ∨ k = 1 ∨ k = 2 ∨ k = 3 ∨ k = 4 := by omega
            rcases hk4 with rfl | rfl | rfl | rfl | rfl
            · have q1 : wr.cell? ⟨wc.heap.size, 0, none⟩ = some (.func (.func 24) #[] #[]) := (hBr.cell (p := ⟨wc.heap.size, 0, none⟩) hszL).trans (hcell.out 0 (by omega))
              obtain ⟨N5, F5, G5, b5, e5, g1, g2⟩ := t0.out
              have z1 : (opE b5 == 0) = b5 := by cases b5 <;> rfl
              have z2 : b5 = false → (opE b5 != 2) = false := by rintro rfl; rfl
              generalize opE b5 = ev5 at *
              replace z1 := Lib.hid z1
              replace z2 := Lib.hid z2
              replace g1 := Lib.hid g1
              replace g2 := Lib.hid g2
              have l1 := (hXr.out.at (b := w.heap.size) (n := nx) (f := fx) (by simp)).ld
              have l2 := (hXr.out.at (b := w.heap.size + 1) (n := ny) (f := fy) (by simp)).ld
              clear hBr
              go_wp2_with fail
              clear l1 l2 q1
              refine (g1.out _ (hXr.out.tab hT)).mono ?_
              rintro e w4 ⟨rfl, h⟩
              have hX4 := hXr.out.on h
              have hB4 := thru hBrh.out h
              clear h
              obtain ⟨W4, hs4, hu, h, -⟩ := Ex.lay w4 N5 F5
              replace hX4 := (hX4.on h).cons hu
              replace hB4 := thru hB4 h
              clear h hu
              have l1 := (hX4.at (b := w.heap.size) (n := nx) (f := fx) (by simp)).ld
              have l2 := (hX4.at (b := w.heap.size + 1) (n := ny) (f := fy) (by simp)).ld
              go_wp2_with fail
              clear l1 l2 hs4
              refine (g2.out _).mono ?_
              rintro e w5 ⟨rfl, h⟩
              replace hX4 := hX4.on h
              replace hB4 := thru hB4 h
              clear h
              obtain ⟨W5, hs5, hu, h, -⟩ := Ex.lay w5 N5 G5
              replace hX4 := (hX4.on h).cons hu
              replace hB4 := Lib.hid (thru hB4 h)
              clear h hu
              go_upto_region 16 with fail
              clear hs5
              have hX5 := Lib.hid hX4
              clear hX4
              go_cut [127] (fun v W => v = .bool false ∧ Below wL.heap.size wL W)
              case first =>
                have l1 := (hX5.out.at (b := w4.heap.size) (n := N5) (f := F5) (by simp)).ld
                have l2 := (hX5.out.at (b := w5.heap.size) (n := N5) (f := G5) (by simp)).ld
                have z3 := z1.out
                have z4 := z2.out
                cases b5
                all_goals
                  try replace z4 := z4 rfl
                  go_wp2_with fail
                  go_meet
                  exact ⟨rfl, hB4.out⟩
              case rest =>
                obtain ⟨rfl, hBk⟩ := hcut
                replace hBk := Lib.hid hBk
                clear hB4
                go_wp2
                go_roundw
                case rel => exact ⟨1, by omega, by go_num, hBk.out⟩
                case measure => simp [intOf]
            · have q1 : wr.cell? ⟨wc.heap.size, 1, none⟩ = some (.func (.func 25) #[] #[]) := (hBr.cell (p := ⟨wc.heap.size, 1, none⟩) hszL).trans (hcell.out 1 (by omega))
              obtain ⟨N5, F5, G5, b5, e5, g1, g2⟩ := t1.out
              have z1 : (opE b5 == 0) = b5 := by cases b5 <;> rfl
              have z2 : b5 = false → (opE b5 != 2) = false := by rintro rfl; rfl
              generalize opE b5 = ev5 at *
              replace z1 := Lib.hid z1
              replace z2 := Lib.hid z2
              replace g1 := Lib.hid g1
              replace g2 := Lib.hid g2
              have l1 := (hXr.out.at (b := w.heap.size) (n := nx) (f := fx) (by simp)).ld
              have l2 := (hXr.out.at (b := w.heap.size + 1) (n := ny) (f := fy) (by simp)).ld
              clear hBr
              go_wp2_with fail
              clear l1 l2 q1
              refine (g1.out _ (hXr.out.tab hT)).mono ?_
              rintro e w4 ⟨rfl, h⟩
              have hX4 := hXr.out.on h
              have hB4 := thru hBrh.out h
              clear h
              obtain ⟨W4, hs4, hu, h, -⟩ := Ex.lay w4 N5 F5
              replace hX4 := (hX4.on h).cons hu
              replace hB4 := thru hB4 h
              clear h hu
              have l1 := (hX4.at (b := w.heap.size) (n := nx) (f := fx) (by simp)).ld
              have l2 := (hX4.at (b := w.heap.size + 1) (n := ny) (f := fy) (by simp)).ld
              go_wp2_with fail
              clear l1 l2 hs4
              refine (g2.out _).mono ?_
              rintro e w5 ⟨rfl, h⟩
              replace hX4 := hX4.on h
              replace hB4 := thru hB4 h
              clear h
              obtain ⟨W5, hs5, hu, h, -⟩ := Ex.lay w5 N5 G5
              replace hX4 := (hX4.on h).cons hu
              replace hB4 := Lib.hid (thru hB4 h)
              clear h hu
              go_upto_region 16 with fail
              clear hs5
              have hX5 := Lib.hid hX4
              clear hX4
              go_cut [127] (fun v W => v = .bool false ∧ Below wL.heap.size wL W)
              case first =>
                have l1 := (hX5.out.at (b := w4.heap.size) (n := N5) (f := F5) (by simp)).ld
                have l2 := (hX5.out.at (b := w5.heap.size) (n := N5) (f := G5) (by simp)).ld
                have z3 := z1.out
                have z4 := z2.out
                cases b5
                all_goals
                  try replace z4 := z4 rfl
                  go_wp2_with fail
                  go_meet
                  exact ⟨rfl, hB4.out⟩
              case rest =>
                obtain ⟨rfl, hBk⟩ := hcut
                replace hBk := Lib.hid hBk
                clear hB4
                go_wp2
                go_roundw
                case rel => exact ⟨2, by omega, by go_num, hBk.out⟩
                case measure => simp [intOf]
            · have q1 : wr.cell? ⟨wc.heap.size, 2, none⟩ = some (.func (.func 26) #[] #[]) := (hBr.cell (p := ⟨wc.heap.size, 2, none⟩) hszL).trans (hcell.out 2 (by omega))
              obtain ⟨N5, F5, G5, b5, e5, g1, g2⟩ := t2.out
              have z1 : (opE b5 == 0) = b5 := by cases b5 <;> rfl
              have z2 : b5 = false → (opE b5 != 2) = false := by rintro rfl; rfl
              generalize opE b5 = ev5 at *
              replace z1 := Lib.hid z1
              replace z2 := Lib.hid z2
              replace g1 := Lib.hid g1
              replace g2 := Lib.hid g2
              have l1 := (hXr.out.at (b := w.heap.size) (n := nx) (f := fx) (by simp)).ld
              have l2 := (hXr.out.at (b := w.heap.size + 1) (n := ny) (f := fy) (by simp)).ld
              clear hBr
              go_wp2_with fail
              clear l1 l2 q1
              refine (g1.out _ (hXr.out.tab hT)).mono ?_
              rintro e w4 ⟨rfl, h⟩
              have hX4 := hXr.out.on h
              have hB4 := thru hBrh.out h
              clear h
              obtain ⟨W4, hs4, hu, h, -⟩ := Ex.lay w4 N5 F5
              replace hX4 := (hX4.on h).cons hu
              replace hB4 := thru hB4 h
              clear h hu
              have l1 := (hX4.at (b := w.heap.size) (n := nx) (f := fx) (by simp)).ld
              have l2 := (hX4.at (b := w.heap.size + 1) (n := ny) (f := fy) (by simp)).ld
              go_wp2_with fail
              clear l1 l2 hs4
              refine (g2.out _).mono ?_
              rintro e w5 ⟨rfl, h⟩
              replace hX4 := hX4.on h
              replace hB4 := thru hB4 h
              clear h
              obtain ⟨W5, hs5, hu, h, -⟩ := Ex.lay w5 N5 G5
              replace hX4 := (hX4.on h).cons hu
              replace hB4 := Lib.hid (thru hB4 h)
              clear h hu
              go_upto_region 16 with fail
              clear hs5
              have hX5 := Lib.hid hX4
              clear hX4
              go_cut [127] (fun v W => v = .bool false ∧ Below wL.heap.size wL W)
              case first =>
                have l1 := (hX5.out.at (b := w4.heap.size) (n := N5) (f := F5) (by simp)).ld
                have l2 := (hX5.out.at (b := w5.heap.size) (n := N5) (f := G5) (by simp)).ld
                have z3 := z1.out
                have z4 := z2.out
                cases b5
                all_goals
                  try replace z4 := z4 rfl
                  go_wp2_with fail
                  go_meet
                  exact ⟨rfl, hB4.out⟩
              case rest =>
                obtain ⟨rfl, hBk⟩ := hcut
                replace hBk := Lib.hid hBk
                clear hB4
                go_wp2
                go_roundw
                case rel => exact ⟨3, by omega, by go_num, hBk.out⟩
                case measure => simp [intOf]
            · have q1 : wr.cell? ⟨wc.heap.size, 3, none⟩ = some (.func (.func 27) #[] #[]) := (hBr.cell (p := ⟨wc.heap.size, 3, none⟩) hszL).trans (hcell.out 3 (by omega))
              obtain ⟨N5, F5, G5, b5, e5, g1, g2⟩ := t3.out
              have z1 : (opE b5 == 0) = b5 := by cases b5 <;> rfl
              have z2 : b5 = false → (opE b5 != 2) = false := by rintro rfl; rfl
              generalize opE b5 = ev5 at *
              replace z1 := Lib.hid z1
              replace z2 := Lib.hid z2
              replace g1 := Lib.hid g1
              replace g2 := Lib.hid g2
              have l1 := (hXr.out.at (b := w.heap.size) (n := nx) (f := fx) (by simp)).ld
              have l2 := (hXr.out.at (b := w.heap.size + 1) (n := ny) (f := fy) (by simp)).ld
              clear hBr
              go_wp2_with fail
              clear l1 l2 q1
              refine (g1.out _ (hXr.out.tab hT)).mono ?_
              rintro e w4 ⟨rfl, h⟩
              have hX4 := hXr.out.on h
              have hB4 := thru hBrh.out h
              clear h
              obtain ⟨W4, hs4, hu, h, -⟩ := Ex.lay w4 N5 F5
              replace hX4 := (hX4.on h).cons hu
              replace hB4 := thru hB4 h
              clear h hu
              have l1 := (hX4.at (b := w.heap.size) (n := nx) (f := fx) (by simp)).ld
              have l2 := (hX4.at (b := w.heap.size + 1) (n := ny) (f := fy) (by simp)).ld
              go_wp2_with fail
              clear l1 l2 hs4
              refine (g2.out _).mono ?_
              rintro e w5 ⟨rfl, h⟩
              replace hX4 := hX4.on h
              replace hB4 := thru hB4 h
              clear h
              obtain ⟨W5, hs5, hu, h, -⟩ := Ex.lay w5 N5 G5
              replace hX4 := (hX4.on h).cons hu
              replace hB4 := Lib.hid (thru hB4 h)
              clear h hu
              go_upto_region 16 with fail
              clear hs5
              have hX5 := Lib.hid hX4
              clear hX4
              go_cut [127] (fun v W => v = .bool false ∧ Below wL.heap.size wL W)
              case first =>
                have l1 := (hX5.out.at (b := w4.heap.size) (n := N5) (f := F5) (by simp)).ld
                have l2 := (hX5.out.at (b := w5.heap.size) (n := N5) (f := G5) (by simp)).ld
                have z3 := z1.out
                have z4 := z2.out
                cases b5
                all_goals
                  try replace z4 := z4 rfl
                  go_wp2_with fail
                  go_meet
                  exact ⟨rfl, hB4.out⟩
              case rest =>
                obtain ⟨rfl, hBk⟩ := hcut
                replace hBk := Lib.hid hBk
                clear hB4
                go_wp2
                go_roundw
                case rel => exact ⟨4, by omega, by go_num, hBk.out⟩
                case measure => simp [intOf]
            · clear t0 t1 t2 t3 hcell hBr
              have c1 := Lib.hid (relHas_any nx fx n ny · hx)
              have c2 := Lib.hid (refRelHas_any nx fx n ny hx)
              generalize hasB nx fx n ny = hb at *
              obtain ⟨ps2, p1, p2⟩ := pairs_both nx fx hx
              obtain ⟨N6, F6, G6, e6, d6, d6'⟩ := back_both nx fx hx
              obtain ⟨N7, F7, G7, e7, d7, d7'⟩ := plus_both nx fx hx
              obtain ⟨N8, F8, G8, e8, d8, d8'⟩ := star_both nx fx hx
              obtain ⟨sF, f1, f2⟩ := from_both nx fx hx
              obtain ⟨sI, j1, j2⟩ := into_both nx fx hx
              have y1 : (hb == hb) = true := by simp
              have y2 : ((sF : Int) == (sF : Int)) = true := by simp
              have y3 : ((sI : Int) == (sI : Int)) = true := by simp
              replace p1 := Lib.hid p1
              replace p2 := Lib.hid p2
              replace d6 := Lib.hid d6
              replace d6' := Lib.hid d6'
              replace d7 := Lib.hid d7
              replace d7' := Lib.hid d7'
              replace d8 := Lib.hid d8
              replace d8' := Lib.hid d8'
              replace f1 := Lib.hid f1
              replace f2 := Lib.hid f2
              replace j1 := Lib.hid j1
              replace j2 := Lib.hid j2
              have hKS : ∀ W, Below wr.heap.size wr W → (ldRel (.pointer (some ⟨w.heap.size, 0, none⟩))).run Tryd.prog W = .ok (.agg (relC nx fx)) W ∧ W.cell? ⟨w.heap.size + 1, 0, none⟩ = some (.int .i64 ny) := fun W hW =>
                ⟨((hXr.out.on hW).at (b := w.heap.size) (n := nx) (f := fx) (by simp)).ld, ((hXr.out.on hW).at (b := w.heap.size + 1) (n := ny) (f := fy) (by simp)).num⟩
              replace hKS := Lib.hid hKS
              have hTr := Lib.hid (hXr.out.tab hT)
              go_upto_region 19 with fail
              have hBd := Lib.hid ((Below.refl wr.heap.size wr).drew)
              go_region_held3 (fun W => (ldRel (.pointer (some ⟨w.heap.size, 0, none⟩))).run Tryd.prog W = .ok (.agg (relC nx fx)) W ∧ W.cell? ⟨w.heap.size + 1, 0, none⟩ = some (.int .i64 ny))
                (exact hKS.out _ hBd.out)
                (first
                  | (go_at_call 29
                     refine (c1.out _).mono ?_
                     rintro e wq ⟨rfl, hq⟩
                     replace hBd := Lib.hid (thru hBd.out hq)
                     clear hq)
                  | (go_at_call 30
                     refine (c2.out _).mono ?_
                     rintro e wq ⟨rfl, hq⟩
                     replace hBd := Lib.hid (thru hBd.out hq)
                     clear hq)
                  | (go_at_call 32
                     refine (p1.out _ (tab_on hTr.out hBd.out)).mono ?_
                     rintro e wq ⟨pv1, rfl, hP1, hq⟩
                     replace hBd := Lib.hid (thru hBd.out hq)
                     replace hP1 := Lib.hid hP1
                     clear hq)
                  | (go_at_call 33
                     refine (p2.out _).mono ?_
                     rintro e wq ⟨pv2, rfl, hP2, hq⟩
                     replace hBd := Lib.hid (thru hBd.out hq)
                     replace hP1 := Lib.hid (hP1.out.on hq)
                     replace hP2 := Lib.hid hP2
                     clear hq)
                  | (go_at_call 31
                     refine (pairs_eq hP1.out hP2.out).mono ?_
                     rintro e wq ⟨rfl, hq⟩
                     replace hBd := Lib.hid (thru hBd.out hq)
                     clear hq)
                  | (go_at_call 34
                     refine (d6.out _ (tab_on hTr.out hBd.out)).mono ?_
                     rintro e wq ⟨rfl, hq⟩
                     replace hBd := Lib.hid (thru hBd.out hq)
                     clear hq)
                  | (go_at_call 35
                     refine (d6'.out _).mono ?_
                     rintro e wq ⟨rfl, hq⟩
                     replace hBd := Lib.hid (thru hBd.out hq)
                     clear hq)
                  | (go_at_call 36
                     refine (d7.out _ (tab_on hTr.out hBd.out)).mono ?_
                     rintro e wq ⟨rfl, hq⟩
                     replace hBd := Lib.hid (thru hBd.out hq)
                     clear hq)
                  | (go_at_call 37
                     refine (d7'.out _).mono ?_
                     rintro e wq ⟨rfl, hq⟩
                     replace hBd := Lib.hid (thru hBd.out hq)
                     clear hq)
                  | (go_at_call 38
                     refine (d8.out _ (tab_on hTr.out hBd.out)).mono ?_
                     rintro e wq ⟨rfl, hq⟩
                     replace hBd := Lib.hid (thru hBd.out hq)
                     clear hq)
                  | (go_at_call 39
                     refine (d8'.out _).mono ?_
                     rintro e wq ⟨rfl, hq⟩
                     replace hBd := Lib.hid (thru hBd.out hq)
                     clear hq)
                  | (go_at_call 40
                     refine (f1.out _).mono ?_
                     rintro e wq ⟨rfl, hq⟩
                     replace hBd := Lib.hid (thru hBd.out hq)
                     clear hq)
                  | (go_at_call 41
                     refine (f2.out _).mono ?_
                     rintro e wq ⟨rfl, hq⟩
                     replace hBd := Lib.hid (thru hBd.out hq)
                     clear hq)
                  | (go_at_call 42
                     refine (j1.out _ (tab_on hTr.out hBd.out)).mono ?_
                     rintro e wq ⟨rfl, hq⟩
                     replace hBd := Lib.hid (thru hBd.out hq)
                     clear hq)
                  | (go_at_call 43
                     refine (j2.out _).mono ?_
                     rintro e wq ⟨rfl, hq⟩
                     replace hBd := Lib.hid (thru hBd.out hq)
                     clear hq)
                  | (go_at_call 15
                     refine (awake_any _ (tab_on hTr.out hBd.out)).mono ?_
                     rintro e wq ⟨rfl, hq⟩
                     replace hBd := Lib.hid (thru hBd.out hq)
                     clear hq))
              all_goals
                go_wp2
                go_ret
                exact ⟨rfl, (hXr.out.on hBd.out).1⟩
end Go.Proofs.YtnfkedcbhjbhkaaDoor
