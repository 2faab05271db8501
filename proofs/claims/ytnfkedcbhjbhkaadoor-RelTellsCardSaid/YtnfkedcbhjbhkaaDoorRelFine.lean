/- seisinlaw02.Fine: any relation, made right. -/
import Derived.Test.YtnfkedcbhjbhkaaDoorRelKeep
namespace Go.Proofs.YtnfkedcbhjbhkaaDoor
open Go.RowKit Go.Shelf

attribute [local go_sem] Oper.semAt_some

/-- How many items are left. -/
def fineN (n most : Int) : Int := (n.tmod (most + 1) + most + 1) % (most + 1)
/-- The rows that are left. -/
def fineF (f : Nat → Nat) (M : Nat) : Nat → Nat := fun i => if i < M then f i &&& (2 ^ M - 1) else 0
def fineK (f : Nat → Nat) (M k : Nat) : Nat → Nat := fun i => if i < k then fineF f M i else f i
theorem relC_setN (n : Int) (f : Nat → Nat) (m : Int) : (relC n f).setIfInBounds 0 (.int .i64 m) = relC m f := by simp [relC]
theorem fineN_bd (n : Int) {most : Int} (h0 : 0 ≤ most) : 0 ≤ fineN n most ∧ fineN n most ≤ most := by
  have p1 : 0 < most + 1 := by omega
  have := Int.emod_nonneg (n.tmod (most + 1) + most + 1) (show most + 1 ≠ 0 by omega)
  have := Int.emod_lt_of_pos (n.tmod (most + 1) + most + 1) p1
  unfold fineN
  omega
theorem fineN_id {n most : Int} (h0 : 0 ≤ n) (h1 : n ≤ most) : fineN n most = n := by
  unfold fineN
  rw [Int.tmod_eq_emod_of_nonneg h0, Int.emod_eq_of_lt h0 (by omega), show n + most + 1 = n + (most + 1) by omega, Int.add_emod_right, Int.emod_eq_of_lt h0 (by omega)]
theorem fine_bit {f : Nat → Nat} {M i j : Nat} : Bt (fineF f M) i j ↔ i < M ∧ j < M ∧ Bt f i j := by
  unfold Bt fineF
  split
  · rename_i h
    rw [Nat.testBit_and, Nat.testBit_two_pow_sub_one]
    simp [h, and_comm]
  · rename_i h
    simp [h]
theorem fine_64 {f : Nat → Nat} (hf : R64 f) (M : Nat) : R64 (fineF f M) := by
  intro i
  unfold fineF
  split
  · exact Nat.lt_of_le_of_lt Nat.and_le_left (hf i)
  · exact Nat.two_pow_pos 64
theorem fine_rgt {f : Nat → Nat} {M : Nat} (h : M ≤ 48) : Rgt M (fineF f M) := rgt_iff.2 ⟨h, fun _ _ _ hb => ⟨(fine_bit.1 hb).1, (fine_bit.1 hb).2.1⟩⟩
theorem fineK_at (f : Nat → Nat) (M k : Nat) : fineK f M k k = f k := by simp [fineK]
theorem fineK_step (f : Nat → Nat) (M k x : Nat) (hx : x = fineF f M k) : upd (fineK f M k) k x = fineK f M (k + 1) := by
  funext i
  unfold upd fineK
  by_cases h : i = k
  · subst h; rw [if_pos rfl, if_pos (by omega), hx]
  · rw [if_neg h]
    by_cases h2 : i < k
    · rw [if_pos h2, if_pos (by omega)]
    · rw [if_neg h2, if_neg (by omega)]
theorem upd_upd (f : Nat → Nat) (k x y : Nat) : upd (upd f k x) k y = upd f k y := by
  funext i
  unfold upd
  split <;> rfl

set_option maxHeartbeats 4000000 in
set_option maxRecDepth 100000 in
theorem fine_any (n most : Int) (f : Nat → Nat) (hf : R64 f) (h0 : 0 ≤ most) (h1 : most ≤ 48) (M : Nat) (hM : (M : Int) = fineN n most) (w : World) :
    Calls Tryd.prog 54 #[.agg (relC n f), .int .i64 most] w fun e w' => e = .returned (.agg (relC M (fineF f M))) ∧ Below w.heap.size w w' := by
  have hA : RelAt ((w.alloc (.cells (relC n f) 26)).alloc (.cells (relC 0 zf) 26)) w.heap.size n f := (RelAt.new w n f).alloc _
  have hZ := RelAt.new (w.alloc (.cells (relC n f) 26)) 0 zf
  rw [World.size_alloc] at hZ
  have hB : Below w.heap.size w ((w.alloc (.cells (relC n f) 26)).alloc (.cells (relC 0 zf) 26)) := ((Below.refl _ w).alloc (Nat.le_refl _) _).alloc (by simp) _
  have p1 : 0 < most + 1 := by omega
  have r0 : -(most + 1) < n.tmod (most + 1) := by
    have := Int.lt_tmod_of_pos n p1
    omega
  have r1 := Int.tmod_lt_of_pos n p1
  have hn := hA.num
  have hfz := hA.free 0
  have hMM : (n.tmod (most + 1) + most + 1) % (most + 1) = (M : Int) := hM.symm
  have hM48 : M ≤ 48 := by have := fineN_bd n h0; omega
  have hset := relC_setN n f
  replace hM := Lib.hid hM
  have hA2 : RelAt ((w.alloc (.cells (relC M f) 26)).alloc (.cells (relC 0 zf) 26)) w.heap.size M f := (RelAt.new w M f).alloc _
  have hZ2 := RelAt.new (w.alloc (.cells (relC M f) 26)) 0 zf
  rw [World.size_alloc] at hZ2
  have hB2 : Below w.heap.size w ((w.alloc (.cells (relC M f) 26)).alloc (.cells (relC 0 zf) 26)) := ((Below.refl _ w).alloc (Nat.le_refl _) _).alloc (by simp) _
  clear hZ hB
  obtain ⟨q, hq⟩ : ∃ q, q = 2 ^ M := ⟨_, rfl⟩
  have hq0 : 0 < q := by rw [hq]; exact Nat.two_pow_pos M
  have hq1 : q < 2 ^ 49 := by rw [hq]; exact Nat.pow_lt_pow_right (by omega) (by omega)
  have hsh : IntKind.u64.wrap (2 ^ M) = (q : Int) := by rw [hq]; exact shl1_nat M (by omega)
  have hM64 : (M : Int) < 64 := by omega
  have hwr : IntKind.u64.wrap ((q : Int) - 1) = (q : Int) - 1 := by rw [IntKind.wrap_u64]; omega
  replace hq := Lib.hid hq
  go_enter Tryd.func54, Tryd.ntmps54
  go_wp2
  clear hn hfz hset hA hMM
  go_loopw [18] (fun i W => ∃ k : Nat, k ≤ 48 ∧ i = .int .i64 k ∧ RelAt W w.heap.size M (fineK f M k) ∧ RelAt W (w.heap.size + 1) 0 zf ∧ Below w.heap.size w W) (fun i _ => 48 - (intOf i).toNat)
  case atStart => exact ⟨0, by omega, rfl, hA2.congr (fun i _ => by simp [fineK]), hZ2, hB2⟩
  case round =>
    obtain ⟨k, hk, rfl, hR, hZ, hB⟩ := hrel
    clear hA2 hZ2 hB2
    by_cases hlt : k < 48
    · have k48 : (k : Int) < 48 := by omega
      have hn := hR.num
      have hrow := hR.row k hlt
      have hfr := hR.free (1 + k)
      rw [fineK_at] at hrow
      by_cases hge : M ≤ k
      · have t0 : decide ((M : Int) ≤ (k : Int)) = true := by simpa using hge
        have h0q : bits BinOp.and IntKind.u64 0 ((q : Int) - 1) = 0 := by
          rw [show (q : Int) - 1 = ((q - 1 : Nat) : Int) by omega]
          exact (u64_and_nat 0 (q - 1) (by omega) (by omega)).trans (by simp)
        go_wp2
        refine wp_region_tail 11 (by kernel_rfl) (by kernel_rfl) ?_
        simp only [List.take_succ_cons, List.take_zero, List.drop_succ_cons, List.drop_zero]
        repeat still_step
        refine wpStill_nil ?_
        go_wp2
        go_roundw
        case rel =>
          refine ⟨k + 1, by omega, by go_num, ?_, ?_, ?_⟩
          · rw [← fineK_step f M k 0 (by unfold fineF; rw [if_neg (by omega)]), ← upd_upd _ k 0 0]
            exact ((hR.set k 0 hlt).set k 0 hlt).drew
          · exact ((hZ.other _ _ (by simp)).other _ _ (by simp)).drew
          · exact ((hB.setCell (by simp) _).setCell (by simp) _).drew
        case measure => simp [intOf]; omega
      · have t0 : decide ((M : Int) ≤ (k : Int)) = false := by simpa using hge
        have hfq : bits BinOp.and IntKind.u64 (f k : Int) ((q : Int) - 1) = (fineF f M k : Int) := by
          rw [show (q : Int) - 1 = ((q - 1 : Nat) : Int) by omega, u64_and_nat _ _ (hf k) (by omega), hq.out]
          unfold fineF
          rw [if_pos (by omega)]
        go_wp2
        refine wp_region_tail 11 (by kernel_rfl) (by kernel_rfl) ?_
        simp only [List.take_succ_cons, List.take_zero, List.drop_succ_cons, List.drop_zero]
        repeat still_step
        refine wpStill_nil ?_
        go_wp2
        go_roundw
        case rel =>
          refine ⟨k + 1, by omega, by go_num, ?_, ?_, ?_⟩
          · rw [← fineK_step f M k _ rfl]
            exact (hR.set k _ hlt).drew
          · exact (hZ.other _ _ (by simp)).drew
          · exact (hB.setCell (by simp) _).drew
        case measure => simp [intOf]; omega
    · obtain rfl : k = 48 := by omega
      have l1 := hR.ld
      obtain ⟨W4, hs4, hR4, hO4⟩ := hZ.put M (fineK f M 48)
      go_wp2
      refine bodyPost_ret (results_rel rfl _ _ _ _ _ rfl hR4) rfl ?_
      exact ⟨by rw [relC_congr (f := fineK f M 48) (g := fineF f M) (fun i hi => by simp [fineK, hi])], below_only hB hO4 (by omega)⟩
theorem RelAt.setN {W : World} {b : Nat} {n : Int} {f : Nat → Nat} (h : RelAt W b n f) (m : Int) : RelAt (W.setCell ⟨b, 0, none⟩ (.int .i64 m)) b m f := by
  unfold RelAt
  rw [heap_setCell_same W b _ _ _ _ h, relC_setN]
theorem fine_ok (n : Int) {most : Int} (f : Nat → Nat) (hf : R64 f) (h0 : 0 ≤ most) (h1 : most ≤ 48) : ∃ M : Nat, (M : Int) = fineN n most ∧ (M : Int) ≤ most ∧ R64 (fineF f M) ∧ Rgt M (fineF f M) ∧
    ∀ w, Calls Tryd.prog 54 #[.agg (relC n f), .int .i64 most] w fun e w' => e = .returned (.agg (relC M (fineF f M))) ∧ Below w.heap.size w w' := by
  have hb := fineN_bd n h0
  exact ⟨(fineN n most).toNat, by omega, by omega, fine_64 hf _, fine_rgt (by omega), fun w => fine_any n most f hf h0 h1 _ (by omega) w⟩
/-- The same where the number of items is already one of those. -/
theorem fine_keep (N : Nat) {most : Int} (f : Nat → Nat) (hf : R64 f) (h1 : (N : Int) ≤ most) (h2 : most ≤ 48) : R64 (fineF f N) ∧ Rgt N (fineF f N) ∧
    ∀ w, Calls Tryd.prog 54 #[.agg (relC N f), .int .i64 most] w fun e w' => e = .returned (.agg (relC N (fineF f N))) ∧ Below w.heap.size w w' :=
  ⟨fine_64 hf _, fine_rgt (by omega), fun w => fine_any N most f hf (by omega) h2 N (fineN_id (by omega) h1).symm w⟩
end Go.Proofs.YtnfkedcbhjbhkaaDoor
