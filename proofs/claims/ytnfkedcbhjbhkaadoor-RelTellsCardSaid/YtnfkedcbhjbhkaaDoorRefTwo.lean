/- The document's answers for layer 2: Two. -/
import Derived.Deep.QuietTactic
import Derived.Deep.DeepCutAuto
import Derived.Deep.RegionWith
import Derived.Test.YtnfkedcbhjbhkaaDoorRefRel2
namespace Go.Proofs.YtnfkedcbhjbhkaaDoor
open Go.RowKit Go.Shelf Go.BigFrame

attribute [local go_sem] Oper.semAt_some

/-- The pairs that Two gives. -/
def twoP (i : Nat) (f g : Nat → Nat) (N : Nat) : Nat → Nat → Bool := fun a b =>
  match i with
  | 0 => (f a).testBit b || (g a).testBit b
  | 1 => (f a).testBit b && (g a).testBit b
  | 2 => (f a).testBit b && !(g a).testBit b
  | _ => thruK f g a b N
set_option maxRecDepth 100000 in
set_option maxHeartbeats 4000000 in
theorem refTwo_bad (i : Nat) (n m : Int) (f g : Nat → Nat) (hf : R64 f) (hg : R64 g) (hb : combB n m f g = false) (w : World) :
    Calls Tryd.prog 28 #[.int .i64 (i : Int), .agg (relC n f), .agg (relC m g)] w fun e w' => e = .returned (.tuple #[.agg (relC 0 zf), .bool false]) ∧ Below w.heap.size w w' := by
  have hA := ((RelAt.new w n f).alloc (.cells (relC m g) 26)).alloc (.cells (relC 0 zf) 26)
  have hM := (RelAt.new (w.alloc (.cells (relC n f) 26)) m g).alloc (.cells (relC 0 zf) 26)
  have hZ := RelAt.new ((w.alloc (.cells (relC n f) 26)).alloc (.cells (relC m g) 26)) 0 zf
  have hB := thru (thru (below_new w (.cells (relC n f) 26)) (below_new _ (.cells (relC m g) 26))) (below_new _ (.cells (relC 0 zf) 26))
  simp only [World.size_alloc] at hM hZ
  have HR := Lib.hid (refRight_any n f hf)
  have HS := Lib.hid (refRight_any m g hg)
  cases hr : rightB n f
  · rw [hr] at HR
    have l1 := hA.ld
    go_enter Tryd.func28, Tryd.ntmps28
    go_wp2_with fail
    refine (HR.out _).mono ?_
    rintro e w1 ⟨rfl, h⟩
    obtain ⟨W3, hs3, hR3, hO3⟩ := (hZ.on h).put 0 zf
    have hB3 := below_only (thru hB h) hO3 (by omega)
    clear hA hM hZ hB hO3 h l1 hb hr
    go_wp2
    refine bodyPost_ret (results_rel2 rfl _ _ _ _ _ rfl hR3) rfl ?_
    exact ⟨rfl, hB3⟩
  · rw [hr] at HR
    have l1 := hA.ld
    cases hs : rightB m g
    · rw [hs] at HS
      go_enter Tryd.func28, Tryd.ntmps28
      go_wp2_with fail
      refine (HR.out _).mono ?_
      rintro e w1 ⟨rfl, h⟩
      clear l1
      have l2 := (hM.on h).ld
      go_wp2_with fail
      refine (HS.out _).mono ?_
      rintro e w2 ⟨rfl, h2⟩
      clear l2
      obtain ⟨W3, hs3, hR3, hO3⟩ := ((hZ.on h).on h2).put 0 zf
      have hB3 := below_only (thru (thru hB h) h2) hO3 (by omega)
      clear hA hM hZ hB hO3 h h2 hb hr hs
      go_wp2
      refine bodyPost_ret (results_rel2 rfl _ _ _ _ _ rfl hR3) rfl ?_
      exact ⟨rfl, hB3⟩
    · rw [hs] at HS
      have hne : ¬ n = m := fun e => by simp [combB, e, hr, hs] at hb; subst e; rw [hr] at hb; cases hb
      have hne2 : (n != m) = true := by simpa using hne
      go_enter Tryd.func28, Tryd.ntmps28
      go_wp2_with fail
      refine (HR.out _).mono ?_
      rintro e w1 ⟨rfl, h⟩
      clear l1
      have l2 := (hM.on h).ld
      go_wp2_with fail
      refine (HS.out _).mono ?_
      rintro e w2 ⟨rfl, h2⟩
      clear l2
      have n1 := ((hA.on h).on h2).num
      have n2 := ((hM.on h).on h2).num
      obtain ⟨W3, hs3, hR3, hO3⟩ := ((hZ.on h).on h2).put 0 zf
      have hB3 := below_only (thru (thru hB h) h2) hO3 (by omega)
      clear hA hM hZ hB hO3 h h2 hb hr hs
      go_wp2
      refine bodyPost_ret (results_rel2 rfl _ _ _ _ _ rfl hR3) rfl ?_
      exact ⟨rfl, hB3⟩

set_option maxRecDepth 100000 in
set_option maxHeartbeats 8000000 in
theorem refTwo_ok0 (N : Nat) (f g : Nat → Nat) (hf : R64 f) (hg : R64 g) (hr : Rgt N f) (hs : Rgt N g) (w : World) :
    Calls Tryd.prog 28 #[.int .i64 0, .agg (relC N f), .agg (relC N g)] w fun e w' => e = .returned (.tuple #[.agg (relC N (fillF (twoP 0 f g N) N N 0)), .bool true]) ∧ Below w.heap.size w w' := by
  have hN := hr.le
  have HR := Lib.hid (fun w => show Calls Tryd.prog 17 #[.agg (relC N f)] w fun e w' => e = .returned (.bool true) ∧ Below w.heap.size w w' by have := refRight_any N f hf w; rwa [show rightB (N : Int) f = true from hr] at this)
  have HS := Lib.hid (fun w => show Calls Tryd.prog 17 #[.agg (relC N g)] w fun e w' => e = .returned (.bool true) ∧ Below w.heap.size w w' by have := refRight_any N g hg w; rwa [show rightB (N : Int) g = true from hs] at this)
  have CF := Lib.hid (fun w a b (hb : b < 64) => refHas (f a) b (hf a) hb w)
  have CG := Lib.hid (fun w a b (hb : b < 64) => refHas (g a) b (hg a) hb w)
  have CT := Lib.hid (fun w a c (ha : a < 48) (hc : c < 48) => refThrough_ok N f g hN hf hg a c ha hc (N : Int) w)
  have hA := ((RelAt.new w N f).alloc (.cells (relC N g) 26)).alloc (.cells (relC 0 zf) 26)
  have hM := (RelAt.new (w.alloc (.cells (relC N f) 26)) N g).alloc (.cells (relC 0 zf) 26)
  have hZ := RelAt.new ((w.alloc (.cells (relC N f) 26)).alloc (.cells (relC N g) 26)) 0 zf
  have hB := thru (thru (below_new w (.cells (relC N f) 26)) (below_new _ (.cells (relC N g) 26))) (below_new _ (.cells (relC 0 zf) 26))
  simp only [World.size_alloc] at hM hZ
  have l1 := hA.ld
  have hnn : ((N : Int) != (N : Int)) = false := by simp
  go_enter Tryd.func28, Tryd.ntmps28
  go_wp2_with fail
  refine (HR.out _).mono ?_
  rintro e w1 ⟨rfl, h⟩
  clear l1
  have l2 := (hM.on h).ld
  go_wp2_with fail
  refine (HS.out _).mono ?_
  rintro e w2 ⟨rfl, h2⟩
  clear l2
  have hX : Kept w w2 [(w.heap.size + 1 + 1, (0 : Int), zf), (w.heap.size + 1, (N : Int), g), (w.heap.size, (N : Int), f)] := by
    refine ⟨thru (thru hB h) h2, ?_⟩
    simp only [List.mem_cons, List.not_mem_nil, or_false]
    rintro p (rfl | rfl | rfl)
    · exact (hZ.on h).on h2
    · exact (hM.on h).on h2
    · exact (hA.on h).on h2
  clear h h2 hA hM hZ hB
  have n1 := (hX.at (b := w.heap.size) (n := N) (f := f) (by simp)).num
  have n2 := (hX.at (b := w.heap.size + 1) (n := N) (f := g) (by simp)).num
  obtain ⟨W3, hs3, hu, h3, -⟩ := Ex.lay w2 N zf
  have hlt1 := (hX.at (b := w.heap.size + 1 + 1) (n := 0) (f := zf) (by simp)).lt
  have hsz := hX.1.size
  rw [← fill_start (twoP 0 f g N) N] at hu
  replace hX := (hX.on h3).cons hu
  clear h3 hu
  generalize hbr : w2.heap.size = br at *
  have ne1 : w.heap.size + 1 ≠ br := by omega
  have ne2 : w.heap.size ≠ br := by omega
  have ne3 : w.heap.size + 1 + 1 ≠ br := by omega
  go_wp2
  clear hs3 n1 n2
  go_loopw [9] (fun i W => ∃ k : Nat, k ≤ N ∧ i = .int .i64 k ∧ Kept w W [(br, (N : Int), fillF (twoP 0 f g N) N k 0), (w.heap.size + 1 + 1, 0, zf), (w.heap.size + 1, (N : Int), g), (w.heap.size, (N : Int), f)]) (fun i _ => N - (intOf i).toNat)
  case atStart => exact ⟨0, by omega, rfl, hX⟩
  case round =>
    clear hX
    obtain ⟨k, hk, rfl, hX⟩ := hrel
    have n1 := (hX.at (b := w.heap.size) (n := N) (f := f) (by simp)).num
    by_cases hkN : k < N
    · have tk : decide (k < N) = true := by simpa using hkN
      go_wp2
      clear n1
      go_loopw [10] (fun j W => ∃ m : Nat, m ≤ N ∧ j = .int .i64 m ∧ Kept w W [(br, (N : Int), fillF (twoP 0 f g N) N k m), (w.heap.size + 1 + 1, 0, zf), (w.heap.size + 1, (N : Int), g), (w.heap.size, (N : Int), f)]) (fun j _ => N - (intOf j).toNat)
      case atStart => exact ⟨0, by omega, rfl, hX⟩
      case round =>
        clear hX
        obtain ⟨m, hm, rfl, hX⟩ := hrel
        have n1 := (hX.at (b := w.heap.size) (n := N) (f := f) (by simp)).num
        by_cases hmN : m < N
        · have tm : decide (m < N) = true := by simpa using hmN
          have zk : (k : Int) < 48 := by omega
          have cF := Lib.hid (fun W => CF.out W k m (by omega))
          have cG := Lib.hid (fun W => CG.out W k m (by omega))
          have cT := Lib.hid (fun W => CT.out W k m (by omega) (by omega))
          have cW := Lib.hid (fun h w => wstep (n := (N : Int)) (p := twoP 0 f g N) hN hkN hmN h w)
          have hno := Lib.hid (fill_no (twoP 0 f g N) N k m)
          have r1 := Lib.hid (fun W (h : Below wr.heap.size wr W) => ((hX.on h).at (b := w.heap.size) (n := N) (f := f) (by simp)).row k (by omega))
          have r2 := Lib.hid (fun W (h : Below wr.heap.size wr W) => ((hX.on h).at (b := w.heap.size + 1) (n := N) (f := g) (by simp)).row k (by omega))
          have hXh := Lib.hid hX
          clear hX
          have hcr : twoP 0 f g N k m = ((f k).testBit m || (g k).testBit m) := rfl
          rw [hcr] at cW hno
          clear hcr
          generalize (f k).testBit m = p at *
          generalize (g k).testBit m = q at *
          generalize thruK f g k m N = z at *
          go_upto_region 10 with fail
          go_cut [11, 12] (fun v11 v12 W => v11 = .bool p ∧ v12 = .bool q ∧ Below wr.heap.size wr W)
          case first =>
            refine wp_region_below wr.heap.size wr (by kernel_rfl) (by kernel_rfl) (Below.refl _ _) ?_
            repeat (first
              | go_big_quiet_step (first
                | (intro _; exact rfl)
                | (intro hW; go_at_call_of 72 (Value.int .u64 (f k : Int)); exact Calls.below_same hW (cF.out _))
                | (intro hW; go_at_call_of 72 (Value.int .u64 (g k : Int)); exact Calls.below_same hW (cG.out _)))
              | (refine wpQuiet_want rfl fun K hK => ?_
                 first
                   | refine quiet_load 23 (.tmp 46) rfl _ rfl _ setAgg r1.out (hK _ ?_)
                   | refine quiet_load 23 (.tmp 52) rfl _ rfl _ setAgg r2.out (hK _ ?_)
                 clear hK K
                 simp only [Act.put, List.setIfInBounds_toArray, List.set_cons_succ, List.set_cons_zero]))
            refine wpQuiet_nil ?_
            intro w4 hB4
            go_wp2
            go_meet
            exact ⟨rfl, rfl, hB4⟩
          case rest =>
            obtain ⟨rfl, rfl, hBc⟩ := hcut
            have hXc := hXh.out.on hBc
            clear r1 r2 cF cG n1 hXh hBc
            have l1 := (hXc.at (b := br) (n := N) (f := fillF (twoP 0 f g N) N k m) (by simp)).ld
            replace hXc := Lib.hid hXc
            cases p <;> cases q
            all_goals
              first
              | (have cW' := Lib.hid (cW.out rfl)
                 clear cW hno
                 go_wp2_with fail
                 clear l1
                 refine (cW'.out _).mono ?_
                 rintro e w5 ⟨rfl, h⟩
                 obtain ⟨W4, hs4, hR4, hO4⟩ := ((hXc.out.on h).at (b := br) (n := N) (f := fillF (twoP 0 f g N) N k m) (by simp)).put N (fillF (twoP 0 f g N) N k (m + 1))
                 have hX4 := (((hXc.out.on h).less (l' := [(w.heap.size + 1 + 1, 0, zf), (w.heap.size + 1, (N : Int), g), (w.heap.size, (N : Int), f)]) (by simp)).only hO4 (by omega) (by simp only [List.mem_cons, List.not_mem_nil, or_false]; rintro p (rfl | rfl | rfl) <;> assumption)).cons hR4
                 clear h hR4 hO4
                 go_wp2
                 go_roundw
                 case rel => exact ⟨m + 1, by omega, by go_num, hX4⟩
                 case measure => simp [intOf]; omega)
              | (have e := Lib.hid (hno.out rfl)
                 clear cW hno
                 go_wp2
                 go_roundw
                 case rel => exact ⟨m + 1, by omega, by go_num, by rw [← e.out]; exact hXc.out⟩
                 case measure => simp [intOf]; omega)
        · obtain rfl : m = N := by omega
          go_wp2
          go_roundw
          case rel => exact ⟨k + 1, by omega, by go_num, by rw [← fill_next]; exact hX⟩
          case measure => simp [intOf]; omega
    · obtain rfl : k = N := by omega
      have l1 := (hX.at (b := br) (n := k) (f := fillF (twoP 0 f g k) k k 0) (by simp)).ld
      obtain ⟨W4, hs4, hR4, hO4⟩ := (hX.at (b := w.heap.size + 1 + 1) (n := 0) (f := zf) (by simp)).put k (fillF (twoP 0 f g k) k k 0)
      have hB4 := below_only hX.1 hO4 (by omega)
      clear hX hO4
      go_wp2
      refine bodyPost_ret (results_rel2 rfl _ _ _ _ _ rfl hR4) rfl ?_
      exact ⟨rfl, hB4⟩

set_option maxRecDepth 100000 in
set_option maxHeartbeats 8000000 in
theorem refTwo_ok1 (N : Nat) (f g : Nat → Nat) (hf : R64 f) (hg : R64 g) (hr : Rgt N f) (hs : Rgt N g) (w : World) :
    Calls Tryd.prog 28 #[.int .i64 1, .agg (relC N f), .agg (relC N g)] w fun e w' => e = .returned (.tuple #[.agg (relC N (fillF (twoP 1 f g N) N N 0)), .bool true]) ∧ Below w.heap.size w w' := by
  have hN := hr.le
  have HR := Lib.hid (fun w => show Calls Tryd.prog 17 #[.agg (relC N f)] w fun e w' => e = .returned (.bool true) ∧ Below w.heap.size w w' by have := refRight_any N f hf w; rwa [show rightB (N : Int) f = true from hr] at this)
  have HS := Lib.hid (fun w => show Calls Tryd.prog 17 #[.agg (relC N g)] w fun e w' => e = .returned (.bool true) ∧ Below w.heap.size w w' by have := refRight_any N g hg w; rwa [show rightB (N : Int) g = true from hs] at this)
  have CF := Lib.hid (fun w a b (hb : b < 64) => refHas (f a) b (hf a) hb w)
  have CG := Lib.hid (fun w a b (hb : b < 64) => refHas (g a) b (hg a) hb w)
  have CT := Lib.hid (fun w a c (ha : a < 48) (hc : c < 48) => refThrough_ok N f g hN hf hg a c ha hc (N : Int) w)
  have hA := ((RelAt.new w N f).alloc (.cells (relC N g) 26)).alloc (.cells (relC 0 zf) 26)
  have hM := (RelAt.new (w.alloc (.cells (relC N f) 26)) N g).alloc (.cells (relC 0 zf) 26)
  have hZ := RelAt.new ((w.alloc (.cells (relC N f) 26)).alloc (.cells (relC N g) 26)) 0 zf
  have hB := thru (thru (below_new w (.cells (relC N f) 26)) (below_new _ (.cells (relC N g) 26))) (below_new _ (.cells (relC 0 zf) 26))
  simp only [World.size_alloc] at hM hZ
  have l1 := hA.ld
  have hnn : ((N : Int) != (N : Int)) = false := by simp
  go_enter Tryd.func28, Tryd.ntmps28
  go_wp2_with fail
  refine (HR.out _).mono ?_
  rintro e w1 ⟨rfl, h⟩
  clear l1
  have l2 := (hM.on h).ld
  go_wp2_with fail
  refine (HS.out _).mono ?_
  rintro e w2 ⟨rfl, h2⟩
  clear l2
  have hX : Kept w w2 [(w.heap.size + 1 + 1, (0 : Int), zf), (w.heap.size + 1, (N : Int), g), (w.heap.size, (N : Int), f)] := by
    refine ⟨thru (thru hB h) h2, ?_⟩
    simp only [List.mem_cons, List.not_mem_nil, or_false]
    rintro p (rfl | rfl | rfl)
    · exact (hZ.on h).on h2
    · exact (hM.on h).on h2
    · exact (hA.on h).on h2
  clear h h2 hA hM hZ hB
  have n1 := (hX.at (b := w.heap.size) (n := N) (f := f) (by simp)).num
  have n2 := (hX.at (b := w.heap.size + 1) (n := N) (f := g) (by simp)).num
  obtain ⟨W3, hs3, hu, h3, -⟩ := Ex.lay w2 N zf
  have hlt1 := (hX.at (b := w.heap.size + 1 + 1) (n := 0) (f := zf) (by simp)).lt
  have hsz := hX.1.size
  rw [← fill_start (twoP 1 f g N) N] at hu
  replace hX := (hX.on h3).cons hu
  clear h3 hu
  generalize hbr : w2.heap.size = br at *
  have ne1 : w.heap.size + 1 ≠ br := by omega
  have ne2 : w.heap.size ≠ br := by omega
  have ne3 : w.heap.size + 1 + 1 ≠ br := by omega
  go_wp2
  clear hs3 n1 n2
  go_loopw [9] (fun i W => ∃ k : Nat, k ≤ N ∧ i = .int .i64 k ∧ Kept w W [(br, (N : Int), fillF (twoP 1 f g N) N k 0), (w.heap.size + 1 + 1, 0, zf), (w.heap.size + 1, (N : Int), g), (w.heap.size, (N : Int), f)]) (fun i _ => N - (intOf i).toNat)
  case atStart => exact ⟨0, by omega, rfl, hX⟩
  case round =>
    clear hX
    obtain ⟨k, hk, rfl, hX⟩ := hrel
    have n1 := (hX.at (b := w.heap.size) (n := N) (f := f) (by simp)).num
    by_cases hkN : k < N
    · have tk : decide (k < N) = true := by simpa using hkN
      go_wp2
      clear n1
      go_loopw [10] (fun j W => ∃ m : Nat, m ≤ N ∧ j = .int .i64 m ∧ Kept w W [(br, (N : Int), fillF (twoP 1 f g N) N k m), (w.heap.size + 1 + 1, 0, zf), (w.heap.size + 1, (N : Int), g), (w.heap.size, (N : Int), f)]) (fun j _ => N - (intOf j).toNat)
      case atStart => exact ⟨0, by omega, rfl, hX⟩
      case round =>
        clear hX
        obtain ⟨m, hm, rfl, hX⟩ := hrel
        have n1 := (hX.at (b := w.heap.size) (n := N) (f := f) (by simp)).num
        by_cases hmN : m < N
        · have tm : decide (m < N) = true := by simpa using hmN
          have zk : (k : Int) < 48 := by omega
          have cF := Lib.hid (fun W => CF.out W k m (by omega))
          have cG := Lib.hid (fun W => CG.out W k m (by omega))
          have cT := Lib.hid (fun W => CT.out W k m (by omega) (by omega))
          have cW := Lib.hid (fun h w => wstep (n := (N : Int)) (p := twoP 1 f g N) hN hkN hmN h w)
          have hno := Lib.hid (fill_no (twoP 1 f g N) N k m)
          have r1 := Lib.hid (fun W (h : Below wr.heap.size wr W) => ((hX.on h).at (b := w.heap.size) (n := N) (f := f) (by simp)).row k (by omega))
          have r2 := Lib.hid (fun W (h : Below wr.heap.size wr W) => ((hX.on h).at (b := w.heap.size + 1) (n := N) (f := g) (by simp)).row k (by omega))
          have hXh := Lib.hid hX
          clear hX
          have hcr : twoP 1 f g N k m = ((f k).testBit m && (g k).testBit m) := rfl
          rw [hcr] at cW hno
          clear hcr
          generalize (f k).testBit m = p at *
          generalize (g k).testBit m = q at *
          generalize thruK f g k m N = z at *
          go_upto_region 10 with fail
          go_cut [11, 12] (fun v11 v12 W => v11 = .bool p ∧ v12 = .bool q ∧ Below wr.heap.size wr W)
          case first =>
            refine wp_region_below wr.heap.size wr (by kernel_rfl) (by kernel_rfl) (Below.refl _ _) ?_
            repeat (first
              | go_big_quiet_step (first
                | (intro _; exact rfl)
                | (intro hW; go_at_call_of 72 (Value.int .u64 (f k : Int)); exact Calls.below_same hW (cF.out _))
                | (intro hW; go_at_call_of 72 (Value.int .u64 (g k : Int)); exact Calls.below_same hW (cG.out _)))
              | (refine wpQuiet_want rfl fun K hK => ?_
                 first
                   | refine quiet_load 23 (.tmp 46) rfl _ rfl _ setAgg r1.out (hK _ ?_)
                   | refine quiet_load 23 (.tmp 52) rfl _ rfl _ setAgg r2.out (hK _ ?_)
                 clear hK K
                 simp only [Act.put, List.setIfInBounds_toArray, List.set_cons_succ, List.set_cons_zero]))
            refine wpQuiet_nil ?_
            intro w4 hB4
            go_wp2
            go_meet
            exact ⟨rfl, rfl, hB4⟩
          case rest =>
            obtain ⟨rfl, rfl, hBc⟩ := hcut
            have hXc := hXh.out.on hBc
            clear r1 r2 cF cG n1 hXh hBc
            have l1 := (hXc.at (b := br) (n := N) (f := fillF (twoP 1 f g N) N k m) (by simp)).ld
            replace hXc := Lib.hid hXc
            cases p <;> cases q
            all_goals
              first
              | (have cW' := Lib.hid (cW.out rfl)
                 clear cW hno
                 go_wp2_with fail
                 clear l1
                 refine (cW'.out _).mono ?_
                 rintro e w5 ⟨rfl, h⟩
                 obtain ⟨W4, hs4, hR4, hO4⟩ := ((hXc.out.on h).at (b := br) (n := N) (f := fillF (twoP 1 f g N) N k m) (by simp)).put N (fillF (twoP 1 f g N) N k (m + 1))
                 have hX4 := (((hXc.out.on h).less (l' := [(w.heap.size + 1 + 1, 0, zf), (w.heap.size + 1, (N : Int), g), (w.heap.size, (N : Int), f)]) (by simp)).only hO4 (by omega) (by simp only [List.mem_cons, List.not_mem_nil, or_false]; rintro p (rfl | rfl | rfl) <;> assumption)).cons hR4
                 clear h hR4 hO4
                 go_wp2
                 go_roundw
                 case rel => exact ⟨m + 1, by omega, by go_num, hX4⟩
                 case measure => simp [intOf]; omega)
              | (have e := Lib.hid (hno.out rfl)
                 clear cW hno
                 go_wp2
                 go_roundw
                 case rel => exact ⟨m + 1, by omega, by go_num, by rw [← e.out]; exact hXc.out⟩
                 case measure => simp [intOf]; omega)
        · obtain rfl : m = N := by omega
          go_wp2
          go_roundw
          case rel => exact ⟨k + 1, by omega, by go_num, by rw [← fill_next]; exact hX⟩
          case measure => simp [intOf]; omega
    · obtain rfl : k = N := by omega
      have l1 := (hX.at (b := br) (n := k) (f := fillF (twoP 1 f g k) k k 0) (by simp)).ld
      obtain ⟨W4, hs4, hR4, hO4⟩ := (hX.at (b := w.heap.size + 1 + 1) (n := 0) (f := zf) (by simp)).put k (fillF (twoP 1 f g k) k k 0)
      have hB4 := below_only hX.1 hO4 (by omega)
      clear hX hO4
      go_wp2
      refine bodyPost_ret (results_rel2 rfl _ _ _ _ _ rfl hR4) rfl ?_
      exact ⟨rfl, hB4⟩

set_option maxRecDepth 100000 in
set_option maxHeartbeats 8000000 in
theorem refTwo_ok2 (N : Nat) (f g : Nat → Nat) (hf : R64 f) (hg : R64 g) (hr : Rgt N f) (hs : Rgt N g) (w : World) :
    Calls Tryd.prog 28 #[.int .i64 2, .agg (relC N f), .agg (relC N g)] w fun e w' => e = .returned (.tuple #[.agg (relC N (fillF (twoP 2 f g N) N N 0)), .bool true]) ∧ Below w.heap.size w w' := by
  have hN := hr.le
  have HR := Lib.hid (fun w => show Calls Tryd.prog 17 #[.agg (relC N f)] w fun e w' => e = .returned (.bool true) ∧ Below w.heap.size w w' by have := refRight_any N f hf w; rwa [show rightB (N : Int) f = true from hr] at this)
  have HS := Lib.hid (fun w => show Calls Tryd.prog 17 #[.agg (relC N g)] w fun e w' => e = .returned (.bool true) ∧ Below w.heap.size w w' by have := refRight_any N g hg w; rwa [show rightB (N : Int) g = true from hs] at this)
  have CF := Lib.hid (fun w a b (hb : b < 64) => refHas (f a) b (hf a) hb w)
  have CG := Lib.hid (fun w a b (hb : b < 64) => refHas (g a) b (hg a) hb w)
  have CT := Lib.hid (fun w a c (ha : a < 48) (hc : c < 48) => refThrough_ok N f g hN hf hg a c ha hc (N : Int) w)
  have hA := ((RelAt.new w N f).alloc (.cells (relC N g) 26)).alloc (.cells (relC 0 zf) 26)
  have hM := (RelAt.new (w.alloc (.cells (relC N f) 26)) N g).alloc (.cells (relC 0 zf) 26)
  have hZ := RelAt.new ((w.alloc (.cells (relC N f) 26)).alloc (.cells (relC N g) 26)) 0 zf
  have hB := thru (thru (below_new w (.cells (relC N f) 26)) (below_new _ (.cells (relC N g) 26))) (below_new _ (.cells (relC 0 zf) 26))
  simp only [World.size_alloc] at hM hZ
  have l1 := hA.ld
  have hnn : ((N : Int) != (N : Int)) = false := by simp
  go_enter Tryd.func28, Tryd.ntmps28
  go_wp2_with fail
  refine (HR.out _).mono ?_
  rintro e w1 ⟨rfl, h⟩
  clear l1
  have l2 := (hM.on h).ld
  go_wp2_with fail
  refine (HS.out _).mono ?_
  rintro e w2 ⟨rfl, h2⟩
  clear l2
  have hX : Kept w w2 [(w.heap.size + 1 + 1, (0 : Int), zf), (w.heap.size + 1, (N : Int), g), (w.heap.size, (N : Int), f)] := by
    refine ⟨thru (thru hB h) h2, ?_⟩
    simp only [List.mem_cons, List.not_mem_nil, or_false]
    rintro p (rfl | rfl | rfl)
    · exact (hZ.on h).on h2
    · exact (hM.on h).on h2
    · exact (hA.on h).on h2
  clear h h2 hA hM hZ hB
  have n1 := (hX.at (b := w.heap.size) (n := N) (f := f) (by simp)).num
  have n2 := (hX.at (b := w.heap.size + 1) (n := N) (f := g) (by simp)).num
  obtain ⟨W3, hs3, hu, h3, -⟩ := Ex.lay w2 N zf
  have hlt1 := (hX.at (b := w.heap.size + 1 + 1) (n := 0) (f := zf) (by simp)).lt
  have hsz := hX.1.size
  rw [← fill_start (twoP 2 f g N) N] at hu
  replace hX := (hX.on h3).cons hu
  clear h3 hu
  generalize hbr : w2.heap.size = br at *
  have ne1 : w.heap.size + 1 ≠ br := by omega
  have ne2 : w.heap.size ≠ br := by omega
  have ne3 : w.heap.size + 1 + 1 ≠ br := by omega
  go_wp2
  clear hs3 n1 n2
  go_loopw [9] (fun i W => ∃ k : Nat, k ≤ N ∧ i = .int .i64 k ∧ Kept w W [(br, (N : Int), fillF (twoP 2 f g N) N k 0), (w.heap.size + 1 + 1, 0, zf), (w.heap.size + 1, (N : Int), g), (w.heap.size, (N : Int), f)]) (fun i _ => N - (intOf i).toNat)
  case atStart => exact ⟨0, by omega, rfl, hX⟩
  case round =>
    clear hX
    obtain ⟨k, hk, rfl, hX⟩ := hrel
    have n1 := (hX.at (b := w.heap.size) (n := N) (f := f) (by simp)).num
    by_cases hkN : k < N
    · have tk : decide (k < N) = true := by simpa using hkN
      go_wp2
      clear n1
      go_loopw [10] (fun j W => ∃ m : Nat, m ≤ N ∧ j = .int .i64 m ∧ Kept w W [(br, (N : Int), fillF (twoP 2 f g N) N k m), (w.heap.size + 1 + 1, 0, zf), (w.heap.size + 1, (N : Int), g), (w.heap.size, (N : Int), f)]) (fun j _ => N - (intOf j).toNat)
      case atStart => exact ⟨0, by omega, rfl, hX⟩
      case round =>
        clear hX
        obtain ⟨m, hm, rfl, hX⟩ := hrel
        have n1 := (hX.at (b := w.heap.size) (n := N) (f := f) (by simp)).num
        by_cases hmN : m < N
        · have tm : decide (m < N) = true := by simpa using hmN
          have zk : (k : Int) < 48 := by omega
          have cF := Lib.hid (fun W => CF.out W k m (by omega))
          have cG := Lib.hid (fun W => CG.out W k m (by omega))
          have cT := Lib.hid (fun W => CT.out W k m (by omega) (by omega))
          have cW := Lib.hid (fun h w => wstep (n := (N : Int)) (p := twoP 2 f g N) hN hkN hmN h w)
          have hno := Lib.hid (fill_no (twoP 2 f g N) N k m)
          have r1 := Lib.hid (fun W (h : Below wr.heap.size wr W) => ((hX.on h).at (b := w.heap.size) (n := N) (f := f) (by simp)).row k (by omega))
          have r2 := Lib.hid (fun W (h : Below wr.heap.size wr W) => ((hX.on h).at (b := w.heap.size + 1) (n := N) (f := g) (by simp)).row k (by omega))
          have hXh := Lib.hid hX
          clear hX
          have hcr : twoP 2 f g N k m = ((f k).testBit m && !(g k).testBit m) := rfl
          rw [hcr] at cW hno
          clear hcr
          generalize (f k).testBit m = p at *
          generalize (g k).testBit m = q at *
          generalize thruK f g k m N = z at *
          go_upto_region 10 with fail
          go_cut [11, 12] (fun v11 v12 W => v11 = .bool p ∧ v12 = .bool q ∧ Below wr.heap.size wr W)
          case first =>
            refine wp_region_below wr.heap.size wr (by kernel_rfl) (by kernel_rfl) (Below.refl _ _) ?_
            repeat (first
              | go_big_quiet_step (first
                | (intro _; exact rfl)
                | (intro hW; go_at_call_of 72 (Value.int .u64 (f k : Int)); exact Calls.below_same hW (cF.out _))
                | (intro hW; go_at_call_of 72 (Value.int .u64 (g k : Int)); exact Calls.below_same hW (cG.out _)))
              | (refine wpQuiet_want rfl fun K hK => ?_
                 first
                   | refine quiet_load 23 (.tmp 46) rfl _ rfl _ setAgg r1.out (hK _ ?_)
                   | refine quiet_load 23 (.tmp 52) rfl _ rfl _ setAgg r2.out (hK _ ?_)
                 clear hK K
                 simp only [Act.put, List.setIfInBounds_toArray, List.set_cons_succ, List.set_cons_zero]))
            refine wpQuiet_nil ?_
            intro w4 hB4
            go_wp2
            go_meet
            exact ⟨rfl, rfl, hB4⟩
          case rest =>
            obtain ⟨rfl, rfl, hBc⟩ := hcut
            have hXc := hXh.out.on hBc
            clear r1 r2 cF cG n1 hXh hBc
            have l1 := (hXc.at (b := br) (n := N) (f := fillF (twoP 2 f g N) N k m) (by simp)).ld
            replace hXc := Lib.hid hXc
            cases p <;> cases q
            all_goals
              first
              | (have cW' := Lib.hid (cW.out rfl)
                 clear cW hno
                 go_wp2_with fail
                 clear l1
                 refine (cW'.out _).mono ?_
                 rintro e w5 ⟨rfl, h⟩
                 obtain ⟨W4, hs4, hR4, hO4⟩ := ((hXc.out.on h).at (b := br) (n := N) (f := fillF (twoP 2 f g N) N k m) (by simp)).put N (fillF (twoP 2 f g N) N k (m + 1))
                 have hX4 := (((hXc.out.on h).less (l' := [(w.heap.size + 1 + 1, 0, zf), (w.heap.size + 1, (N : Int), g), (w.heap.size, (N : Int), f)]) (by simp)).only hO4 (by omega) (by simp only [List.mem_cons, List.not_mem_nil, or_false]; rintro p (rfl | rfl | rfl) <;> assumption)).cons hR4
                 clear h hR4 hO4
                 go_wp2
                 go_roundw
                 case rel => exact ⟨m + 1, by omega, by go_num, hX4⟩
                 case measure => simp [intOf]; omega)
              | (have e := Lib.hid (hno.out rfl)
                 clear cW hno
                 go_wp2
                 go_roundw
                 case rel => exact ⟨m + 1, by omega, by go_num, by rw [← e.out]; exact hXc.out⟩
                 case measure => simp [intOf]; omega)
        · obtain rfl : m = N := by omega
          go_wp2
          go_roundw
          case rel => exact ⟨k + 1, by omega, by go_num, by rw [← fill_next]; exact hX⟩
          case measure => simp [intOf]; omega
    · obtain rfl : k = N := by omega
      have l1 := (hX.at (b := br) (n := k) (f := fillF (twoP 2 f g k) k k 0) (by simp)).ld
      obtain ⟨W4, hs4, hR4, hO4⟩ := (hX.at (b := w.heap.size + 1 + 1) (n := 0) (f := zf) (by simp)).put k (fillF (twoP 2 f g k) k k 0)
      have hB4 := below_only hX.1 hO4 (by omega)
      clear hX hO4
      go_wp2
      refine bodyPost_ret (results_rel2 rfl _ _ _ _ _ rfl hR4) rfl ?_
      exact ⟨rfl, hB4⟩

set_option maxRecDepth 100000 in
set_option maxHeartbeats 8000000 in
theorem refTwo_ok3 (N : Nat) (f g : Nat → Nat) (hf : R64 f) (hg : R64 g) (hr : Rgt N f) (hs : Rgt N g) (w : World) :
    Calls Tryd.prog 28 #[.int .i64 3, .agg (relC N f), .agg (relC N g)] w fun e w' => e = .returned (.tuple #[.agg (relC N (fillF (twoP 3 f g N) N N 0)), .bool true]) ∧ Below w.heap.size w w' := by
  have hN := hr.le
  have HR := Lib.hid (fun w => show Calls Tryd.prog 17 #[.agg (relC N f)] w fun e w' => e = .returned (.bool true) ∧ Below w.heap.size w w' by have := refRight_any N f hf w; rwa [show rightB (N : Int) f = true from hr] at this)
  have HS := Lib.hid (fun w => show Calls Tryd.prog 17 #[.agg (relC N g)] w fun e w' => e = .returned (.bool true) ∧ Below w.heap.size w w' by have := refRight_any N g hg w; rwa [show rightB (N : Int) g = true from hs] at this)
  have CF := Lib.hid (fun w a b (hb : b < 64) => refHas (f a) b (hf a) hb w)
  have CG := Lib.hid (fun w a b (hb : b < 64) => refHas (g a) b (hg a) hb w)
  have CT := Lib.hid (fun w a c (ha : a < 48) (hc : c < 48) => refThrough_ok N f g hN hf hg a c ha hc (N : Int) w)
  have hA := ((RelAt.new w N f).alloc (.cells (relC N g) 26)).alloc (.cells (relC 0 zf) 26)
  have hM := (RelAt.new (w.alloc (.cells (relC N f) 26)) N g).alloc (.cells (relC 0 zf) 26)
  have hZ := RelAt.new ((w.alloc (.cells (relC N f) 26)).alloc (.cells (relC N g) 26)) 0 zf
  have hB := thru (thru (below_new w (.cells (relC N f) 26)) (below_new _ (.cells (relC N g) 26))) (below_new _ (.cells (relC 0 zf) 26))
  simp only [World.size_alloc] at hM hZ
  have l1 := hA.ld
  have hnn : ((N : Int) != (N : Int)) = false := by simp
  go_enter Tryd.func28, Tryd.ntmps28
  go_wp2_with fail
  refine (HR.out _).mono ?_
  rintro e w1 ⟨rfl, h⟩
  clear l1
  have l2 := (hM.on h).ld
  go_wp2_with fail
  refine (HS.out _).mono ?_
  rintro e w2 ⟨rfl, h2⟩
  clear l2
  have hX : Kept w w2 [(w.heap.size + 1 + 1, (0 : Int), zf), (w.heap.size + 1, (N : Int), g), (w.heap.size, (N : Int), f)] := by
    refine ⟨thru (thru hB h) h2, ?_⟩
    simp only [List.mem_cons, List.not_mem_nil, or_false]
    rintro p (rfl | rfl | rfl)
    · exact (hZ.on h).on h2
    · exact (hM.on h).on h2
    · exact (hA.on h).on h2
  clear h h2 hA hM hZ hB
  have n1 := (hX.at (b := w.heap.size) (n := N) (f := f) (by simp)).num
  have n2 := (hX.at (b := w.heap.size + 1) (n := N) (f := g) (by simp)).num
  obtain ⟨W3, hs3, hu, h3, -⟩ := Ex.lay w2 N zf
  have hlt1 := (hX.at (b := w.heap.size + 1 + 1) (n := 0) (f := zf) (by simp)).lt
  have hsz := hX.1.size
  rw [← fill_start (twoP 3 f g N) N] at hu
  replace hX := (hX.on h3).cons hu
  clear h3 hu
  generalize hbr : w2.heap.size = br at *
  have ne1 : w.heap.size + 1 ≠ br := by omega
  have ne2 : w.heap.size ≠ br := by omega
  have ne3 : w.heap.size + 1 + 1 ≠ br := by omega
  go_wp2
  clear hs3 n1 n2
  go_loopw [9] (fun i W => ∃ k : Nat, k ≤ N ∧ i = .int .i64 k ∧ Kept w W [(br, (N : Int), fillF (twoP 3 f g N) N k 0), (w.heap.size + 1 + 1, 0, zf), (w.heap.size + 1, (N : Int), g), (w.heap.size, (N : Int), f)]) (fun i _ => N - (intOf i).toNat)
  case atStart => exact ⟨0, by omega, rfl, hX⟩
  case round =>
    clear hX
    obtain ⟨k, hk, rfl, hX⟩ := hrel
    have n1 := (hX.at (b := w.heap.size) (n := N) (f := f) (by simp)).num
    by_cases hkN : k < N
    · have tk : decide (k < N) = true := by simpa using hkN
      go_wp2
      clear n1
      go_loopw [10] (fun j W => ∃ m : Nat, m ≤ N ∧ j = .int .i64 m ∧ Kept w W [(br, (N : Int), fillF (twoP 3 f g N) N k m), (w.heap.size + 1 + 1, 0, zf), (w.heap.size + 1, (N : Int), g), (w.heap.size, (N : Int), f)]) (fun j _ => N - (intOf j).toNat)
      case atStart => exact ⟨0, by omega, rfl, hX⟩
      case round =>
        clear hX
        obtain ⟨m, hm, rfl, hX⟩ := hrel
        have n1 := (hX.at (b := w.heap.size) (n := N) (f := f) (by simp)).num
        by_cases hmN : m < N
        · have tm : decide (m < N) = true := by simpa using hmN
          have zk : (k : Int) < 48 := by omega
          have cF := Lib.hid (fun W => CF.out W k m (by omega))
          have cG := Lib.hid (fun W => CG.out W k m (by omega))
          have cT := Lib.hid (fun W => CT.out W k m (by omega) (by omega))
          have cW := Lib.hid (fun h w => wstep (n := (N : Int)) (p := twoP 3 f g N) hN hkN hmN h w)
          have hno := Lib.hid (fill_no (twoP 3 f g N) N k m)
          have r1 := Lib.hid (fun W (h : Below wr.heap.size wr W) => ((hX.on h).at (b := w.heap.size) (n := N) (f := f) (by simp)).row k (by omega))
          have r2 := Lib.hid (fun W (h : Below wr.heap.size wr W) => ((hX.on h).at (b := w.heap.size + 1) (n := N) (f := g) (by simp)).row k (by omega))
          have hXh := Lib.hid hX
          clear hX
          have hcr : twoP 3 f g N k m = thruK f g k m N := rfl
          rw [hcr] at cW hno
          clear hcr
          generalize (f k).testBit m = p at *
          generalize (g k).testBit m = q at *
          generalize thruK f g k m N = z at *
          go_upto_region 10 with fail
          go_cut [11, 12] (fun v11 v12 W => v11 = .bool p ∧ v12 = .bool q ∧ Below wr.heap.size wr W)
          case first =>
            refine wp_region_below wr.heap.size wr (by kernel_rfl) (by kernel_rfl) (Below.refl _ _) ?_
            repeat (first
              | go_big_quiet_step (first
                | (intro _; exact rfl)
                | (intro hW; go_at_call_of 72 (Value.int .u64 (f k : Int)); exact Calls.below_same hW (cF.out _))
                | (intro hW; go_at_call_of 72 (Value.int .u64 (g k : Int)); exact Calls.below_same hW (cG.out _)))
              | (refine wpQuiet_want rfl fun K hK => ?_
                 first
                   | refine quiet_load 23 (.tmp 46) rfl _ rfl _ setAgg r1.out (hK _ ?_)
                   | refine quiet_load 23 (.tmp 52) rfl _ rfl _ setAgg r2.out (hK _ ?_)
                 clear hK K
                 simp only [Act.put, List.setIfInBounds_toArray, List.set_cons_succ, List.set_cons_zero]))
            refine wpQuiet_nil ?_
            intro w4 hB4
            go_wp2
            go_meet
            exact ⟨rfl, rfl, hB4⟩
          case rest =>
            obtain ⟨rfl, rfl, hBc⟩ := hcut
            have hXc := hXh.out.on hBc
            clear r1 r2 cF cG n1 hXh hBc
            have l1 := (hXc.at (b := br) (n := N) (f := fillF (twoP 3 f g N) N k m) (by simp)).ld
            replace hXc := Lib.hid hXc
            have l2 := (hXc.out.at (b := w.heap.size) (n := N) (f := f) (by simp)).ld
            have l3 := (hXc.out.at (b := w.heap.size + 1) (n := N) (f := g) (by simp)).ld
            go_wp2_with fail
            clear l1 l2 l3
            refine (cT.out _).mono ?_
            rintro e w6 ⟨rfl, h6⟩
            replace hXc := Lib.hid (hXc.out.on h6)
            clear h6
            have l1 := (hXc.out.at (b := br) (n := N) (f := fillF (twoP 3 f g N) N k m) (by simp)).ld
            cases z
            all_goals
              first
              | (have cW' := Lib.hid (cW.out rfl)
                 clear cW hno
                 go_wp2_with fail
                 clear l1
                 refine (cW'.out _).mono ?_
                 rintro e w5 ⟨rfl, h⟩
                 obtain ⟨W4, hs4, hR4, hO4⟩ := ((hXc.out.on h).at (b := br) (n := N) (f := fillF (twoP 3 f g N) N k m) (by simp)).put N (fillF (twoP 3 f g N) N k (m + 1))
                 have hX4 := (((hXc.out.on h).less (l' := [(w.heap.size + 1 + 1, 0, zf), (w.heap.size + 1, (N : Int), g), (w.heap.size, (N : Int), f)]) (by simp)).only hO4 (by omega) (by simp only [List.mem_cons, List.not_mem_nil, or_false]; rintro p (rfl | rfl | rfl) <;> assumption)).cons hR4
                 clear h hR4 hO4
                 go_wp2
                 go_roundw
                 case rel => exact ⟨m + 1, by omega, by go_num, hX4⟩
                 case measure => simp [intOf]; omega)
              | (have e := Lib.hid (hno.out rfl)
                 clear cW hno
                 go_wp2
                 go_roundw
                 case rel => exact ⟨m + 1, by omega, by go_num, by rw [← e.out]; exact hXc.out⟩
                 case measure => simp [intOf]; omega)
        · obtain rfl : m = N := by omega
          go_wp2
          go_roundw
          case rel => exact ⟨k + 1, by omega, by go_num, by rw [← fill_next]; exact hX⟩
          case measure => simp [intOf]; omega
    · obtain rfl : k = N := by omega
      have l1 := (hX.at (b := br) (n := k) (f := fillF (twoP 3 f g k) k k 0) (by simp)).ld
      obtain ⟨W4, hs4, hR4, hO4⟩ := (hX.at (b := w.heap.size + 1 + 1) (n := 0) (f := zf) (by simp)).put k (fillF (twoP 3 f g k) k k 0)
      have hB4 := below_only hX.1 hO4 (by omega)
      clear hX hO4
      go_wp2
      refine bodyPost_ret (results_rel2 rfl _ _ _ _ _ rfl hR4) rfl ?_
      exact ⟨rfl, hB4⟩
end Go.Proofs.YtnfkedcbhjbhkaaDoor
