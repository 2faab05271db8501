/- rel.Into, Empty, Irreflexive, Has. -/
import Derived.Test.YtakhmjohncidoaaDoorRelSets
namespace Go.Proofs.YtakhmjohncidoaaDoor
open Go.RowKit Go.Shelf

attribute [local go_sem] Oper.semAt_some

theorem allOf_lt48 (n : Int) (_h0 : 0 ≤ n) (h1 : n ≤ 48) : (allOf n).toNat < 2 ^ 48 ∧ allOf n = ((allOf n).toNat : Int) := by
  have hb := allOf_bd n
  refine ⟨?_, by omega⟩
  unfold allOf
  split
  · exact Nat.two_pow_pos 48
  · rw [if_neg (by omega), Int.toNat_natCast]
    have : 2 ^ n.toNat ≤ 2 ^ 48 := Nat.pow_le_pow_right (by omega) (by omega)
    have h0 := Nat.two_pow_pos n.toNat
    omega

set_option maxHeartbeats 1000000 in
set_option maxRecDepth 100000 in
theorem into_any (n : Int) (f : Nat → Nat) (w : World) (hf : R64 f) (hT : Tab w) :
    Calls Tryd.prog 32 #[.agg (relC n f)] w fun e w' => e = .returned (.int .u64 ((if rightB n f then imgF f (allOf n).toNat else 0 : Nat) : Int)) ∧ Below w.heap.size w w' := by
  have hA := RelAt.new w n f
  have hB : Below w.heap.size w (w.alloc (.cells (relC n f) 26)) := (Below.refl _ w).alloc (Nat.le_refl _) _
  have R1 := Lib.hid (fun w => right_any n f w hf)
  have l1 := hA.ld
  cases h : rightB n f
  · rw [h] at R1
    clear h
    go_enter Tryd.func32, Tryd.ntmps32
    go_wp2_with fail
    refine (R1.out _).mono ?_
    rintro e w1 ⟨rfl, hb⟩
    replace hB := hB.trans (hb.mono hB.size)
    go_wp2
    go_ret
    exact ⟨rfl, hB⟩
  · obtain ⟨⟨hn0, hn1⟩, -⟩ := rightB_iff.1 h
    rw [h] at R1
    clear h
    obtain ⟨ha, hae⟩ := allOf_lt48 n hn0 hn1
    have CA := Lib.hid (fun w => all_any n w)
    rw [hae] at CA
    generalize (allOf n).toNat = A at *
    clear hae
    have hpos := hT.pos
    go_enter Tryd.func32, Tryd.ntmps32
    go_wp2_with fail
    refine (R1.out _).mono ?_
    rintro e w1 ⟨rfl, hb⟩
    replace hB := hB.trans (hb.mono hB.size)
    replace hA := hA.below hb (by simp)
    clear hb l1
    have hn := hA.num
    go_wp2_with fail
    refine (CA.out _).mono ?_
    rintro e w2 ⟨rfl, rfl⟩
    go_wp2_with fail
    refine (image_any w.heap.size n f hf A ha w1 hA (hT.below hB hpos)).mono ?_
    rintro e w2 ⟨rfl, hb⟩
    replace hB := hB.trans (hb.mono hB.size)
    clear hb
    go_wp2
    go_ret
    exact ⟨rfl, hB⟩

set_option maxHeartbeats 1000000 in
set_option maxRecDepth 100000 in
theorem empty_any (n : Int) (f : Nat → Nat) (w : World) (hf : R64 f) :
    Calls Tryd.prog 39 #[.agg (relC n f)] w fun e w' => e = .returned (.bool (rightB n f && decide (fromK f n.toNat = 0))) ∧ Below w.heap.size w w' := by
  have hA := RelAt.new w n f
  have hB : Below w.heap.size w (w.alloc (.cells (relC n f) 26)) := (Below.refl _ w).alloc (Nat.le_refl _) _
  have R1 := Lib.hid (fun w => right_any n f w hf)
  have R2 := Lib.hid (fun w => from_any n f w hf)
  have l1 := hA.ld
  cases h : rightB n f
  · rw [h] at R1
    clear h
    go_enter Tryd.func39, Tryd.ntmps39
    go_wp2_with fail
    refine (R1.out _).mono ?_
    rintro e w1 ⟨rfl, hb⟩
    replace hB := hB.trans (hb.mono hB.size)
    go_wp2
    go_ret
    exact ⟨rfl, hB⟩
  · rw [h] at R1 R2
    clear h
    rw [if_pos rfl] at R2
    generalize fromK f n.toNat = A at *
    go_enter Tryd.func39, Tryd.ntmps39
    go_wp2_with fail
    refine (R1.out _).mono ?_
    rintro e w1 ⟨rfl, hb⟩
    replace hB := hB.trans (hb.mono hB.size)
    replace hA := hA.below hb (by simp)
    clear hb l1
    have l2 := hA.ld
    go_wp2_with fail
    refine (R2.out _).mono ?_
    rintro e w2 ⟨rfl, hb⟩
    replace hB := hB.trans (hb.mono hB.size)
    clear hb l2
    by_cases hz : A = 0
    · have t0 : ((A : Int) == 0) = true := by rw [hz]; rfl
      have hd := Lib.hid (show decide (A = 0) = true by simp [hz])
      clear hz
      go_wp2
      go_ret
      rw [hd.out]
      exact ⟨rfl, hB⟩
    · have t0 : ((A : Int) == 0) = false := by simp; omega
      have hd := Lib.hid (show decide (A = 0) = false by simp [hz])
      clear hz
      go_wp2
      go_ret
      rw [hd.out]
      exact ⟨rfl, hB⟩

/-- No item below k is related to itself. -/
def irrK (f : Nat → Nat) (k : Nat) : Bool := (List.range k).all fun i => !(f i).testBit i
theorem irrK_succ (f : Nat → Nat) (k : Nat) : irrK f (k + 1) = (irrK f k && !(f k).testBit k) := by simp [irrK, List.range_succ]
theorem irrK_bad (f : Nat → Nat) (k m : Nat) (hk : k < m) (h : (f k).testBit k = true) : irrK f m = false := by
  unfold irrK
  rw [Bool.eq_false_iff]
  intro hc
  rw [List.all_eq_true] at hc
  have := hc k (by simpa using hk)
  rw [h] at this
  cases this

set_option maxHeartbeats 1000000 in
set_option maxRecDepth 100000 in
theorem irr_any (n : Int) (f : Nat → Nat) (w : World) (hf : R64 f) :
    Calls Tryd.prog 40 #[.agg (relC n f)] w fun e w' => e = .returned (.bool (rightB n f && irrK f n.toNat)) ∧ Below w.heap.size w w' := by
  have hA := RelAt.new w n f
  have hB : Below w.heap.size w (w.alloc (.cells (relC n f) 26)) := (Below.refl _ w).alloc (Nat.le_refl _) _
  have R1 := Lib.hid (fun w => right_any n f w hf)
  have l1 := hA.ld
  cases h : rightB n f
  · rw [h] at R1
    clear h
    go_enter Tryd.func40, Tryd.ntmps40
    go_wp2_with fail
    refine (R1.out _).mono ?_
    rintro e w1 ⟨rfl, hb⟩
    replace hB := hB.trans (hb.mono hB.size)
    go_wp2
    go_ret
    exact ⟨rfl, hB⟩
  · obtain ⟨⟨hn0, hn1⟩, -⟩ := rightB_iff.1 h
    rw [h] at R1
    clear h
    go_enter Tryd.func40, Tryd.ntmps40
    go_wp2_with fail
    refine (R1.out _).mono ?_
    rintro e w1 ⟨rfl, hb⟩
    replace hB := hB.trans (hb.mono hB.size)
    replace hA := hA.below hb (by simp)
    clear hb l1
    have hn := hA.num
    go_wp2
    go_loop [9] (fun i => ∃ k : Nat, (k : Int) ≤ n ∧ i = .int .i64 k ∧ irrK f k = true) (fun i => (n - intOf i).toNat)
    case atStart => exact ⟨0, by omega, rfl, rfl⟩
    case round =>
      obtain ⟨k, hk, rfl, hirr⟩ := hrel
      by_cases hlt : (k : Int) < n
      · have hc := hA.row k (by omega)
        have k1 : (k : Int) < 64 := by omega
        have k2 : (k : Int) < 48 := by omega
        have ht := bit_is1 (f k) k (hf k)
        cases hz : (f k).testBit k
        · rw [hz] at ht
          have hs := Lib.hid (show irrK f (k + 1) = true by rw [irrK_succ, hirr, hz]; rfl)
          clear hz hirr
          go_wp2
          go_round
          case rel => exact ⟨k + 1, by omega, by go_num, hs.out⟩
          case measure => simp [intOf]; omega
        · rw [hz] at ht
          have hs := Lib.hid (irrK_bad f k n.toNat (by omega) hz)
          clear hz hirr
          go_wp2
          go_ret
          rw [hs.out]
          exact ⟨rfl, hB⟩
      · obtain rfl : n = (k : Int) := by omega
        have hs := Lib.hid hirr
        clear hirr
        go_wp2
        go_ret
        rw [hs.out]
        exact ⟨rfl, hB⟩

/-- Is (a, b) a pair? -/
def hasB (n : Int) (f : Nat → Nat) (a b : Int) : Bool := rightB n f && (itemB n a && (itemB n b && (f a.toNat).testBit b.toNat))

set_option maxHeartbeats 1000000 in
set_option maxRecDepth 100000 in
theorem relHas_any (n : Int) (f : Nat → Nat) (a b : Int) (w : World) (hf : R64 f) :
    Calls Tryd.prog 19 #[.agg (relC n f), .int .i64 a, .int .i64 b] w fun e w' => e = .returned (.bool (hasB n f a b)) ∧ Below w.heap.size w w' := by
  have hA := RelAt.new w n f
  have hB : Below w.heap.size w (w.alloc (.cells (relC n f) 26)) := (Below.refl _ w).alloc (Nat.le_refl _) _
  have R1 := Lib.hid (fun w => right_any n f w hf)
  have I1 := Lib.hid (fun w => isItem_any n a w)
  have I2 := Lib.hid (fun w => isItem_any n b w)
  have l1 := hA.ld
  unfold hasB
  cases h : rightB n f
  · rw [h] at R1
    clear h
    go_enter Tryd.func19, Tryd.ntmps19
    go_wp2_with fail
    refine (R1.out _).mono ?_
    rintro e w1 ⟨rfl, hb⟩
    replace hB := hB.trans (hb.mono hB.size)
    go_wp2
    go_ret
    exact ⟨rfl, hB⟩
  · obtain ⟨⟨hn0, hn1⟩, -⟩ := rightB_iff.1 h
    rw [h] at R1
    clear h
    cases ha : itemB n a
    · rw [ha] at I1
      clear ha
      go_enter Tryd.func19, Tryd.ntmps19
      go_wp2_with fail
      refine (R1.out _).mono ?_
      rintro e w1 ⟨rfl, hb⟩
      replace hB := hB.trans (hb.mono hB.size)
      replace hA := hA.below hb (by simp)
      clear hb l1
      have hn := hA.num
      go_wp2_with fail
      refine (I1.out _).mono ?_
      rintro e w2 ⟨rfl, rfl⟩
      go_wp2
      go_ret
      exact ⟨rfl, hB⟩
    · obtain ⟨a0, a1⟩ := itemB_iff.1 ha
      rw [ha] at I1
      clear ha
      cases hb' : itemB n b
      · rw [hb'] at I2
        clear hb'
        go_enter Tryd.func19, Tryd.ntmps19
        go_wp2_with fail
        refine (R1.out _).mono ?_
        rintro e w1 ⟨rfl, hb⟩
        replace hB := hB.trans (hb.mono hB.size)
        replace hA := hA.below hb (by simp)
        clear hb l1
        have hn := hA.num
        go_wp2_with fail
        refine (I1.out _).mono ?_
        rintro e w2 ⟨rfl, rfl⟩
        go_wp2_with fail
        refine (I2.out _).mono ?_
        rintro e w2 ⟨rfl, rfl⟩
        go_wp2
        go_ret
        exact ⟨rfl, hB⟩
      · obtain ⟨b0, b1⟩ := itemB_iff.1 hb'
        rw [hb'] at I2
        clear hb'
        obtain ⟨x, rfl⟩ := Int.eq_ofNat_of_zero_le a0
        obtain ⟨y, rfl⟩ := Int.eq_ofNat_of_zero_le b0
        have k1 : (x : Int) < 48 := by omega
        have k2 : (y : Int) < 64 := by omega
        have ht := Lib.hid (bit_is1 (f x) y (hf x))
        go_enter Tryd.func19, Tryd.ntmps19
        go_wp2_with fail
        refine (R1.out _).mono ?_
        rintro e w1 ⟨rfl, hb⟩
        replace hB := hB.trans (hb.mono hB.size)
        replace hA := hA.below hb (by simp)
        clear hb l1
        have hn := hA.num
        have hc := hA.row x (by omega)
        go_wp2_with fail
        refine (I1.out _).mono ?_
        rintro e w2 ⟨rfl, rfl⟩
        go_wp2_with fail
        refine (I2.out _).mono ?_
        rintro e w2 ⟨rfl, rfl⟩
        go_wp2
        go_ret
        rw [Int.toNat_natCast, Int.toNat_natCast, ← ht.out]
        exact ⟨rfl, hB⟩
end Go.Proofs.YtakhmjohncidoaaDoor
