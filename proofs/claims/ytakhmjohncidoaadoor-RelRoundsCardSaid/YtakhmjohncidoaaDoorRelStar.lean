/- rel.Plus, rel.Star, walked. -/
import Derived.Deep.LoopGhost
import Derived.Test.YtakhmjohncidoaaDoorRelPlus
namespace Go.Proofs.YtakhmjohncidoaaDoor
open Go.RowKit Go.Shelf Go.BigFrame

attribute [local go_sem] Oper.semAt_some

set_option maxHeartbeats 2000000 in
set_option maxRecDepth 100000 in
theorem plus_any (n : Int) (f : Nat → Nat) (w : World) (hf : R64 f) (hT : Tab w) :
    Calls Tryd.prog 26 #[.agg (relC n f)] w fun e w' => e = .returned (.agg (relC (opN (rightB n f) n) (if rightB n f then plusF n f else zf))) ∧ Below w.heap.size w w' := by
  have hA : RelAt ((w.alloc (.cells (relC n f) 26)).alloc (.cells (relC 0 zf) 26)) w.heap.size n f := (RelAt.new w n f).alloc _
  have hZ : RelAt ((w.alloc (.cells (relC n f) 26)).alloc (.cells (relC 0 zf) 26)) (w.heap.size + 1) 0 zf := by
    have := RelAt.new (w.alloc (.cells (relC n f) 26)) 0 zf
    rwa [World.size_alloc] at this
  have hB : Below w.heap.size w ((w.alloc (.cells (relC n f) 26)).alloc (.cells (relC 0 zf) 26)) := ((Below.refl _ w).alloc (Nat.le_refl _) _).alloc (by simp) _
  have Hs := Lib.hid (show ((w.alloc (.cells (relC n f) 26)).alloc (.cells (relC 0 zf) 26)).heap.size = w.heap.size + 2 by simp)
  have R1 := Lib.hid (fun w => right_any n f w hf)
  have l1 := hA.ld
  have hp := hT.pos
  cases h : rightB n f
  · rw [h] at R1
    clear h
    go_enter Tryd.func26, Tryd.ntmps26
    go_wp2_with fail
    refine (R1.out _).mono ?_
    rintro e w1 ⟨rfl, hb⟩
    replace hZ := hZ.below hb (by rw [Hs.out]; omega)
    replace hB := hB.trans (hb.mono hB.size)
    clear hb l1
    obtain ⟨W3, hs3, hR3, hO3⟩ := hZ.put 0 zf
    go_wp2
    exact bodyPost_ret (results_rel rfl _ _ _ _ _ rfl hR3) rfl ⟨rfl, below_only hB hO3 (by omega)⟩
  · have hrt := h
    rw [h] at R1
    clear h
    have Hrt := Lib.hid hrt
    obtain ⟨⟨hn0, hn1⟩, -⟩ := rightB_iff.1 hrt
    clear hrt
    go_enter Tryd.func26, Tryd.ntmps26
    go_wp2_with fail
    refine (R1.out _).mono ?_
    rintro e w1 ⟨rfl, hb⟩
    replace hZ := hZ.below hb (by rw [Hs.out]; omega)
    replace hA := hA.below hb (by rw [Hs.out]; omega)
    replace hB := hB.trans (hb.mono hB.size)
    have hsz := Lib.hid (show w.heap.size + 2 ≤ w1.heap.size by have := hb.size; rw [Hs.out] at this; exact this)
    clear hb l1 Hs
    go_wp2
    go_loopg [] (miss f) (fun gk W => ∃ k, gk = miss (iterF n f k) ∧ RelAt W w.heap.size n (iterF n f k) ∧ RelAt W (w.heap.size + 1) 0 zf ∧ Below w.heap.size w W ∧ w.heap.size + 2 ≤ W.heap.size)
    case atStart => exact ⟨0, rfl, hA, hZ, hB, hsz.out⟩
    case round =>
      obtain ⟨k, hgk, hR, hZ2, hBw, hszw⟩ := hrel
      have Hgk := Lib.hid hgk
      clear hgk hA hZ hB
      have HG64 := Lib.hid (iterF_64 n hf k)
      have Hri := Lib.hid (right_iter Hrt.out k)
      have Hst := Lib.hid (fun j : Nat => (rfl : cutF n (stepF (iterF n f k)) j = iterF n f (k + 1) j))
      have Hms := Lib.hid (miss_step Hri.out)
      have Hdef := Lib.hid (show iterF n f (k + 1) = cutF n (stepF (iterF n f k)) from rfl)
      generalize hg : iterF n f k = g at *
      have HC := Lib.hid (build_any n 62 #[.pointer (some ⟨w.heap.size, 0, none⟩)] (stepF g) wr hn0 hn1
        (enters_of Tryd.func62 (by kernel_rfl) rfl)
        (fun W k hk hb => plus1_any n g HG64.out w.heap.size k (by omega) (right_row Hri.out k (by omega)) W (hR.below hb hR.lt) ((hT.below hBw hp).below hb (by omega))))
      have Hg := Lib.hid hg
      clear hg
      have hn := hR.num
      go_wp2_with fail
      refine HC.out.mono ?_
      rintro e W2 ⟨rfl, hb⟩
      replace hR := hR.below hb (by omega)
      replace hZ2 := hZ2.below hb (by omega)
      replace hBw := hBw.trans (hb.mono hBw.size)
      replace hszw := Nat.le_trans hszw hb.size
      clear hb hn
      obtain ⟨W3, hs3, hR3, hO3⟩ := (RelAt.new W2 0 zf).put n (cutF n (stepF g))
      replace hR := (hR.alloc (.cells (relC 0 zf) 26)).only hO3 (by omega)
      replace hZ2 := (hZ2.alloc (.cells (relC 0 zf) 26)).only hO3 (by omega)
      replace hBw := below_only (hBw.alloc (by omega) (.cells (relC 0 zf) 26)) hO3 (by omega)
      have hsz3 : w.heap.size + 2 ≤ W3.heap.size := by rw [hO3.size]; simp; omega
      clear hO3
      have l3 := hR3.ld
      have l4 := hR.ld
      cases hq : relB n n (cutF n (stepF g)) g
      · have Hm := Lib.hid (Hms.out hq)
        obtain ⟨W4, hs4, hR4, hO4⟩ := hR.put n (cutF n (stepF g))
        have hlt3 := hR3.lt
        replace hZ2 := hZ2.only hO4 (by omega)
        replace hBw := below_only hBw hO4 (by omega)
        have hsz4 : w.heap.size + 2 ≤ W4.heap.size := by rw [hO4.size]; exact hsz3
        clear hO4
        go_wp2
        go_roundg (miss (cutF n (stepF g)))
        case measure => rw [Hgk.out]; exact Hm.out
        case rel => exact ⟨k + 1, by rw [Hdef.out], by rw [Hdef.out]; exact hR4, hZ2, hBw, hsz4⟩
      · have hfx : Fixed n f k := by
          have h2 := (relB_iff.1 hq).2
          intro i hi
          rw [Hdef.out, Hg.out]
          exact h2 i hi
        have hpl := Lib.hid (fun i hi => plusF_at Hrt.out hfx i hi)
        clear hfx
        obtain ⟨W4, hs4, hR4, hO4⟩ := hZ2.put n g
        go_wp2
        refine bodyPost_ret (results_rel rfl _ _ _ _ _ rfl hR4) rfl ⟨?_, below_only hBw hO4 (by omega)⟩
        have : relC n g = relC n (plusF n f) := relC_congr fun i hi => by rw [hpl.out i hi, Hg.out]
        rw [this]
        rfl

/-- The rows with each item itself. -/
def starF (g : Nat → Nat) : Nat → Nat := fun i => g i ||| 2 ^ i
set_option maxHeartbeats 1000000 in
set_option maxRecDepth 100000 in
theorem star1_any (n : Int) (g : Nat → Nat) (hg : R64 g) (a k : Nat) (hk : k < 48) (w : World) (hA : RelAt w a n g) :
    Calls Tryd.prog 63 #[.int .i64 (k : Int), .pointer (some ⟨a, 0, none⟩)] w fun e w' => e = .returned (.int .u64 (starF g k : Int)) ∧ Below w.heap.size w w' := by
  have c1 := hA.row k hk
  have k1 : (k : Int) < 64 := by omega
  have k2 : (k : Int) < 48 := by omega
  have hr := Lib.hid (show bits BinOp.or IntKind.u64 (g k : Int) (IntKind.u64.wrap (2 ^ k)) = (starF g k : Int) by
    have hp : 2 ^ k < 2 ^ 64 := Nat.pow_lt_pow_right (by omega) (by omega)
    rw [shl1_nat k (by omega), u64_or_nat _ _ (hg k) hp]; rfl)
  go_enter Tryd.func63, Tryd.ntmps63
  go_wp2
  go_quiet (fail)
  go_wp2
  go_ret
  refine ⟨?_, below_drewN (Below.refl _ _) nq⟩
  rw [← hr.out]
  rfl

/-- What Star answers. -/
noncomputable def starR (n : Int) (f : Nat → Nat) : Nat → Nat := cutF (opN (rightB n f) n) (starF (if rightB n f then plusF n f else zf))
set_option maxHeartbeats 1000000 in
set_option maxRecDepth 100000 in
theorem star_any (n : Int) (f : Nat → Nat) (w : World) (hf : R64 f) (hT : Tab w) :
    Calls Tryd.prog 28 #[.agg (relC n f)] w fun e w' => e = .returned (.agg (relC (opN (rightB n f) n) (starR n f))) ∧ Below w.heap.size w w' := by
  have hA : RelAt ((w.alloc (.cells (relC n f) 26)).alloc (.cells (relC 0 zf) 26)) w.heap.size n f := (RelAt.new w n f).alloc _
  have hZ : RelAt ((w.alloc (.cells (relC n f) 26)).alloc (.cells (relC 0 zf) 26)) (w.heap.size + 1) 0 zf := by
    have := RelAt.new (w.alloc (.cells (relC n f) 26)) 0 zf
    rwa [World.size_alloc] at this
  have hB : Below w.heap.size w ((w.alloc (.cells (relC n f) 26)).alloc (.cells (relC 0 zf) 26)) := ((Below.refl _ w).alloc (Nat.le_refl _) _).alloc (by simp) _
  have Hs := Lib.hid (show ((w.alloc (.cells (relC n f) 26)).alloc (.cells (relC 0 zf) 26)).heap.size = w.heap.size + 2 by simp)
  have l1 := hA.ld
  have hp := hT.pos
  have HP := Lib.hid (plus_any n f _ hf (hT.below hB hp))
  have hm : 0 ≤ opN (rightB n f) n ∧ opN (rightB n f) n ≤ 48 := by
    unfold opN
    cases h : rightB n f
    · simp
    · simpa using (rightB_iff.1 h).1
  have hg64 : R64 (if rightB n f then plusF n f else zf) := by
    split
    · exact plusF_64 n hf
    · exact zf_64
  have hS := Lib.hid (show starR n f = cutF (opN (rightB n f) n) (starF (if rightB n f then plusF n f else zf)) from rfl)
  generalize (if rightB n f then plusF n f else zf) = g at *
  generalize opN (rightB n f) n = m at *
  obtain ⟨hm0, hm1⟩ := hm
  go_enter Tryd.func28, Tryd.ntmps28
  go_wp2_with fail
  refine HP.out.mono ?_
  rintro e w1 ⟨rfl, hb⟩
  replace hZ := hZ.below hb (by rw [Hs.out]; omega)
  replace hB := hB.trans (hb.mono hB.size)
  have hsz := Lib.hid (show w.heap.size + 2 ≤ w1.heap.size by have := hb.size; rw [Hs.out] at this; exact this)
  clear hb l1
  obtain ⟨W3, hs3, hR3, hO3⟩ := (RelAt.new w1 0 zf).put m g
  replace hZ := (hZ.alloc (.cells (relC 0 zf) 26)).only hO3 (by have := hsz.out; omega)
  replace hB := below_only (hB.alloc (by have := hsz.out; omega) (.cells (relC 0 zf) 26)) hO3 (by have := hsz.out; omega)
  have hsz3 := Lib.hid (show W3.heap.size = w1.heap.size + 1 by rw [hO3.size]; simp)
  clear hO3
  have hn := hR3.num
  have HC := Lib.hid (build_any m 63 #[.pointer (some ⟨w1.heap.size, 0, none⟩)] (starF g) W3 hm0 hm1
    (enters_of Tryd.func63 (by kernel_rfl) rfl)
    (fun W k hk hb => star1_any m g hg64 w1.heap.size k (by omega) W (hR3.below hb hR3.lt)))
  go_wp2_with fail
  refine HC.out.mono ?_
  rintro e W2 ⟨rfl, hb⟩
  replace hZ := hZ.below hb (by have := hsz.out; have := hsz3.out; omega)
  replace hB := hB.trans (hb.mono hB.size)
  clear hb hn
  obtain ⟨W4, hs4, hR4, hO4⟩ := hZ.put m (cutF m (starF g))
  go_wp2
  refine bodyPost_ret (results_rel rfl _ _ _ _ _ rfl hR4) rfl ⟨?_, below_only hB hO4 (by omega)⟩
  rw [hS.out]
end Go.Proofs.YtakhmjohncidoaaDoor
