/- rel.Cross, From, Into, Empty, Irreflexive, Has. -/
import Derived.Test.YtakhmjohncidoaaDoorRelThen
namespace Go.Proofs.YtakhmjohncidoaaDoor
open Go.RowKit Go.Shelf

attribute [local go_sem] Oper.semAt_some

/-- The rows of a product. -/
def crossF (s t : Nat) (n : Int) : Nat → Nat := fun i => if s.testBit i then t &&& (allOf n).toNat else 0
theorem crossF_64 (s t : Nat) (n : Int) (ht : t < 2 ^ 64) : R64 (crossF s t n) := by
  intro i
  unfold crossF
  split
  · exact Nat.lt_of_le_of_lt Nat.and_le_left ht
  · exact Nat.two_pow_pos 64

set_option maxHeartbeats 1000000 in
set_option maxRecDepth 100000 in
theorem cross_any (n : Int) (s t : Nat) (hs : s < 2 ^ 64) (ht : t < 2 ^ 64) (w : World) :
    Calls Tryd.prog 12 #[.int .i64 n, .int .u64 (s : Int), .int .u64 (t : Int)] w fun e w' => e = .returned (.agg (relC (opN (sizedB n) n) (opF (sizedB n) n (crossF s t n)))) ∧ Below w.heap.size w w' := by
  have hZ : RelAt ((w.alloc (.cells #[.int .u64 (s : Int)] 23)).alloc (.cells (relC 0 zf) 26)) (w.heap.size + 1) 0 zf := by
    have := (RelAt.new (w.alloc (.cells #[.int .u64 (s : Int)] 23)) 0 zf)
    rwa [World.size_alloc] at this
  have hS : Boxed ((w.alloc (.cells #[.int .u64 (s : Int)] 23)).alloc (.cells (relC 0 zf) 26)) w.heap.size 23 (.int .u64 (s : Int)) := (Boxed.new w 23 (.int .u64 (s : Int))).alloc _
  have hB : Below w.heap.size w ((w.alloc (.cells #[.int .u64 (s : Int)] 23)).alloc (.cells (relC 0 zf) 26)) :=
    ((Below.refl _ w).alloc (Nat.le_refl _) _).alloc (by simp) _
  have CS := Lib.hid (fun w => sized_any n w)
  have CA := Lib.hid (fun w => all_any n w)
  cases h : sizedB n
  · rw [h] at CS
    clear h
    obtain ⟨W3, hs3, hR3, hO3⟩ := hZ.put 0 zf
    go_enter Tryd.func12, Tryd.ntmps12
    go_wp2_with fail
    refine (CS.out _).mono ?_
    rintro e w1 ⟨rfl, rfl⟩
    go_wp2
    exact bodyPost_ret (results_rel rfl _ _ _ _ _ rfl hR3) rfl ⟨rfl, below_only hB hO3 (by omega)⟩
  · obtain ⟨hn0, hn1⟩ := sizedB_iff.1 h
    rw [h] at CS
    clear h
    have hal := allOf_bd n
    have hand := Lib.hid (show bits BinOp.and IntKind.u64 (t : Int) (allOf n) = ((t &&& (allOf n).toNat : Nat) : Int) by
      have := u64_and_nat t (allOf n).toNat ht (by omega)
      rwa [Int.toNat_of_nonneg hal.1] at this)
    clear hal
    replace hZ := hZ.alloc (.cells #[.int .u64 (bits BinOp.and IntKind.u64 (t : Int) (allOf n))] 23)
    replace hS := hS.alloc (.cells #[.int .u64 (bits BinOp.and IntKind.u64 (t : Int) (allOf n))] 23)
    have hU := Boxed.new ((w.alloc (.cells #[.int .u64 (s : Int)] 23)).alloc (.cells (relC 0 zf) 26)) 23 (.int .u64 (bits BinOp.and IntKind.u64 (t : Int) (allOf n)))
    rw [World.size_alloc, World.size_alloc] at hU
    replace hB := hB.alloc (by simp; omega) (.cells #[.int .u64 (bits BinOp.and IntKind.u64 (t : Int) (allOf n))] 23)
    have Hs := Lib.hid (show (((w.alloc (.cells #[.int .u64 (s : Int)] 23)).alloc (.cells (relC 0 zf) 26)).alloc (.cells #[.int .u64 (bits BinOp.and IntKind.u64 (t : Int) (allOf n))] 23)).heap.size = w.heap.size + 3 by simp)
    have HC := Lib.hid (build_any n 53 #[.pointer (some ⟨w.heap.size, 0, none⟩), .pointer (some ⟨w.heap.size + 1 + 1, 0, none⟩)] (crossF s t n) (((w.alloc (.cells #[.int .u64 (s : Int)] 23)).alloc (.cells (relC 0 zf) 26)).alloc (.cells #[.int .u64 (bits BinOp.and IntKind.u64 (t : Int) (allOf n))] 23)) hn0 hn1
      (enters_of Tryd.func53 (by kernel_rfl) rfl)
      (fun W k hk hb => by
        have h1 := (hb.cell (p := ⟨w.heap.size, 0, none⟩) (by rw [Hs.out]; exact Nat.lt_add_of_pos_right (by omega))).trans hS.cell
        have h2 := (hb.cell (p := ⟨w.heap.size + 1 + 1, 0, none⟩) (by rw [Hs.out]; exact Nat.lt_succ_self _)).trans hU.cell
        rw [hand.out] at h2
        exact cross1_any s _ w.heap.size (w.heap.size + 1 + 1) k hs (by omega) W h1 h2))
    clear hU hS
    go_enter Tryd.func12, Tryd.ntmps12
    go_wp2_with fail
    refine (CS.out _).mono ?_
    rintro e w1 ⟨rfl, rfl⟩
    go_wp2_with fail
    refine (CA.out _).mono ?_
    rintro e w1 ⟨rfl, rfl⟩
    go_wp2_with fail
    refine HC.out.mono ?_
    rintro e W1 ⟨rfl, hb⟩
    replace hZ := hZ.below hb (by rw [Hs.out]; omega)
    replace hB := hB.trans (hb.mono hB.size)
    clear hb
    obtain ⟨W3, hs3, hR3, hO3⟩ := hZ.put n (cutF n (crossF s t n))
    go_wp2
    exact bodyPost_ret (results_rel rfl _ _ _ _ _ rfl hR3) rfl ⟨rfl, below_only hB hO3 (by omega)⟩

/-- The domain, of the items below k. -/
def fromK (f : Nat → Nat) (k : Nat) : Nat := (List.range k).foldl (fun s i => if f i = 0 then s else s ||| 2 ^ i) 0
theorem fromK_succ (f : Nat → Nat) (k : Nat) : fromK f (k + 1) = if f k = 0 then fromK f k else fromK f k ||| 2 ^ k := by
  simp [fromK, List.range_succ, List.foldl_append]
theorem fromK_bit (f : Nat → Nat) (k j : Nat) : (fromK f k).testBit j = (decide (j < k) && decide (f j ≠ 0)) := by
  induction k with
  | zero => simp [fromK]
  | succ k ih =>
    rw [fromK_succ]
    by_cases h : f k = 0
    · rw [if_pos h, ih]
      by_cases hj : j = k
      · subst hj; simp [h]
      · have : (j < k + 1) ↔ j < k := by omega
        simp [this]
    · rw [if_neg h, Nat.testBit_or, ih, Nat.testBit_two_pow]
      by_cases hj : j = k
      · subst hj; simp [h]
      · have : (j < k + 1) ↔ j < k := by omega
        have h2 : ¬ k = j := fun e => hj e.symm
        simp [this, h2]
theorem fromK_lt (f : Nat → Nat) (k : Nat) : fromK f k < 2 ^ k := by
  apply Nat.lt_pow_two_of_testBit
  intro i hi
  rw [fromK_bit]
  simp; omega

set_option maxHeartbeats 1000000 in
set_option maxRecDepth 100000 in
theorem from_any (n : Int) (f : Nat → Nat) (w : World) (hf : R64 f) :
    Calls Tryd.prog 30 #[.agg (relC n f)] w fun e w' => e = .returned (.int .u64 ((if rightB n f then fromK f n.toNat else 0 : Nat) : Int)) ∧ Below w.heap.size w w' := by
  have hA := RelAt.new w n f
  have hB : Below w.heap.size w (w.alloc (.cells (relC n f) 26)) := (Below.refl _ w).alloc (Nat.le_refl _) _
  have R1 := Lib.hid (fun w => right_any n f w hf)
  have l1 := hA.ld
  cases h : rightB n f
  · rw [h] at R1
    clear h
    go_enter Tryd.func30, Tryd.ntmps30
    go_wp2_with fail
    refine (R1.out _).mono ?_
    rintro e w1 ⟨rfl, hb⟩
    replace hB := hB.trans (hb.mono hB.size)
    go_wp2
    go_ret
    exact ⟨rfl, hB⟩
  · obtain ⟨⟨hn0, hn1⟩, -⟩ := rightB_iff.1 h
    rw [h] at R1
    clear h
    go_enter Tryd.func30, Tryd.ntmps30
    go_wp2_with fail
    refine (R1.out _).mono ?_
    rintro e w1 ⟨rfl, hb⟩
    replace hB := hB.trans (hb.mono hB.size)
    replace hA := hA.below hb (by simp)
    clear hb l1
    have hn := hA.num
    go_wp2
    go_loop [3, 10] (fun s i => ∃ k : Nat, (k : Int) ≤ n ∧ i = .int .i64 k ∧ s = .int .u64 (fromK f k : Int)) (fun _ i => (n - intOf i).toNat)
    case atStart => exact ⟨0, by omega, rfl, rfl⟩
    case round =>
      obtain ⟨k, hk, rfl, rfl⟩ := hrel
      by_cases hlt : (k : Int) < n
      · have hc := hA.row k (by omega)
        have k1 : (k : Int) < 64 := by omega
        have k2 : (k : Int) < 48 := by omega
        have hfl : fromK f k < 2 ^ 64 := Nat.lt_of_lt_of_le (fromK_lt f k) (Nat.pow_le_pow_right (by omega) (by omega))
        have hp : 2 ^ k < 2 ^ 64 := Nat.pow_lt_pow_right (by omega) (by omega)
        by_cases hz : f k = 0
        · have t0 : ((f k : Int) != 0) = false := by rw [hz]; rfl
          have hs := Lib.hid (show fromK f (k + 1) = fromK f k by rw [fromK_succ, if_pos hz])
          clear hz hfl hp
          go_wp2
          go_round
          case rel => exact ⟨k + 1, by omega, by go_num, by rw [hs.out]⟩
          case measure => simp [intOf]; omega
        · have t0 : ((f k : Int) != 0) = true := by simp; omega
          have hs := Lib.hid (show bits BinOp.or IntKind.u64 (fromK f k : Int) (IntKind.u64.wrap (2 ^ k)) = (fromK f (k + 1) : Int) by
            rw [shl1_nat k (by omega), u64_or_nat _ _ hfl hp, fromK_succ, if_neg hz])
          clear hz hfl hp
          go_wp2
          go_round
          case rel => exact ⟨k + 1, by omega, by go_num, by rw [← hs.out]⟩
          case measure => simp [intOf]; omega
      · obtain rfl : n = (k : Int) := by omega
        go_wp2
        go_ret
        exact ⟨rfl, hB⟩
end Go.Proofs.YtakhmjohncidoaaDoor
