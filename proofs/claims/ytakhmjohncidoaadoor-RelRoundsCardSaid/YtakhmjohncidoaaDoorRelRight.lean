/- rel.sized, rel.isItem, rel.Right. -/
import Derived.Test.YtakhmjohncidoaaDoorRelBase
import Derived.Test.YtakhmjohncidoaaDoorMarksAllOnly
namespace Go.Proofs.YtakhmjohncidoaaDoor
open Go.RowKit Go.Shelf

attribute [local go_sem] Oper.semAt_some

def sizedB (n : Int) : Bool := decide (0 ≤ n) && decide (n ≤ 48)
theorem sizedB_iff {n : Int} : sizedB n = true ↔ 0 ≤ n ∧ n ≤ 48 := by simp [sizedB]
def itemB (n a : Int) : Bool := decide (0 ≤ a) && decide (a < n)
theorem itemB_iff {n a : Int} : itemB n a = true ↔ 0 ≤ a ∧ a < n := by simp [itemB]

set_option maxRecDepth 100000 in
theorem sized_any (n : Int) (w : World) : Calls Tryd.prog 45 #[.int .i64 n] w fun e w' => e = .returned (.bool (sizedB n)) ∧ w = w' := by
  by_cases h : 0 ≤ n
  · have h1 : decide (0 ≤ n) = true := by simpa using h
    have hs := Lib.hid (show sizedB n = decide (n ≤ 48) by simp [sizedB, h])
    go_enter Tryd.func45, Tryd.ntmps45
    go_wp2
    go_ret
    rw [hs.out]
    exact ⟨rfl, rfl⟩
  · have h1 : decide (0 ≤ n) = false := by simpa using h
    have hs := Lib.hid (show sizedB n = false by simp [sizedB, h])
    go_enter Tryd.func45, Tryd.ntmps45
    go_wp2
    go_ret
    rw [hs.out]
    exact ⟨rfl, rfl⟩

set_option maxRecDepth 100000 in
theorem isItem_any (n a : Int) (w : World) : Calls Tryd.prog 48 #[.int .i64 n, .int .i64 a] w fun e w' => e = .returned (.bool (itemB n a)) ∧ w = w' := by
  by_cases h : 0 ≤ a
  · have h1 : decide (0 ≤ a) = true := by simpa using h
    have hs := Lib.hid (show itemB n a = decide (a < n) by simp [itemB, h])
    go_enter Tryd.func48, Tryd.ntmps48
    go_wp2
    go_ret
    rw [hs.out]
    exact ⟨rfl, rfl⟩
  · have h1 : decide (0 ≤ a) = false := by simpa using h
    have hs := Lib.hid (show itemB n a = false by simp [itemB, h])
    go_enter Tryd.func48, Tryd.ntmps48
    go_wp2
    go_ret
    rw [hs.out]
    exact ⟨rfl, rfl⟩

/-- Each row is a set of 64 bits. -/
def R64 (f : Nat → Nat) : Prop := ∀ i, f i < 2 ^ 64
/-- Does a row contain items alone? -/
def okRow (n : Int) (f : Nat → Nat) (a : Nat) : Bool := if (a : Int) < n then decide (f a < 2 ^ n.toNat) else decide (f a = 0)
def rightB (n : Int) (f : Nat → Nat) : Bool := sizedB n && (List.range 48).all (okRow n f)
theorem rightB_iff {n : Int} {f : Nat → Nat} : rightB n f = true ↔ (0 ≤ n ∧ n ≤ 48) ∧ ∀ i, i < 48 → okRow n f i = true := by
  simp [rightB, sizedB_iff]

/-- The set that the rows are held against, before round k. -/
def itemsN (n : Int) (k : Nat) : Int := if n < (k : Int) then 0 else allOf n

theorem andNot_mask (x k : Nat) (hx : x < 2 ^ 64) (hk : k < 64) : (x &&& (18446744073709551615 - (2 ^ k - 1)) = 0) ↔ x < 2 ^ k := by
  have hp : 2 ^ k < 2 ^ 64 := Nat.pow_lt_pow_right (by omega) hk
  have hp0 := Nat.two_pow_pos k
  have hb : ∀ j, (18446744073709551615 - (2 ^ k - 1)).testBit j = (decide (j < 64) && !decide (j < k)) := by
    intro j
    have e : 18446744073709551615 - (2 ^ k - 1) = 2 ^ 64 - (2 ^ k - 1 + 1) := by omega
    rw [e, Nat.testBit_two_pow_sub_succ (by omega), Nat.testBit_two_pow_sub_one]
  constructor
  · intro h
    apply Nat.lt_pow_two_of_testBit
    intro i hi
    by_cases hi2 : i < 64
    · have := congrArg (fun y => y.testBit i) h
      simp only [Nat.testBit_and, hb, Nat.zero_testBit] at this
      simpa [hi2, show ¬ i < k by omega] using this
    · exact Nat.testBit_lt_two_pow (Nat.lt_of_lt_of_le hx (Nat.pow_le_pow_right (by omega) (by omega)))
  · intro h
    apply Nat.eq_of_testBit_eq
    intro j
    rw [Nat.testBit_and, hb, Nat.zero_testBit]
    by_cases hj : j < k
    · simp [hj]
    · rw [Nat.testBit_lt_two_pow (Nat.lt_of_lt_of_le h (Nat.pow_le_pow_right (by omega) (by omega)))]
      rfl

theorem row_test (n : Int) (f : Nat → Nat) (k : Nat) (hf : R64 f) (hn0 : 0 ≤ n) (hn1 : n ≤ 48) :
    (bits BinOp.andNot IntKind.u64 (f k : Int) (itemsN n (k + 1)) != 0) = !okRow n f k := by
  have hx : f k < 18446744073709551616 := hf k
  unfold itemsN okRow
  by_cases h : n < ((k + 1 : Nat) : Int)
  · rw [if_pos h, if_neg (by omega)]
    rw [show (0 : Int) = ((0 : Nat) : Int) by rfl, u64_andNot_nat _ _ hx (by omega)]
    rw [Bool.eq_iff_iff]
    have : f k &&& (18446744073709551615 - 0) = f k := by
      apply Nat.eq_of_testBit_eq
      intro j
      rw [Nat.testBit_and, show (18446744073709551615 - 0 : Nat) = 2 ^ 64 - 1 by rfl, Nat.testBit_two_pow_sub_one]
      by_cases hj : j < 64
      · simp [hj]
      · rw [Nat.testBit_lt_two_pow (Nat.lt_of_lt_of_le (hf k) (Nat.pow_le_pow_right (by omega) (by omega)))]
        rfl
    rw [this]
    simp
  · rw [if_neg h, if_pos (by omega)]
    have ha : allOf n = ((2 ^ n.toNat - 1 : Nat) : Int) := by
      unfold allOf; rw [if_neg (by omega), if_neg (by omega)]
    have hp : 2 ^ n.toNat < 2 ^ 64 := Nat.pow_lt_pow_right (by omega) (by omega)
    rw [ha, u64_andNot_nat _ _ hx (by omega)]
    have := andNot_mask (f k) n.toNat hx (by omega)
    rw [Bool.eq_iff_iff]
    simp only [bne_iff_ne, ne_eq, Bool.not_eq_true', decide_eq_false_iff_not]
    rw [← this]
    omega

set_option maxHeartbeats 1000000 in
set_option maxRecDepth 100000 in
theorem right_any (n : Int) (f : Nat → Nat) (w : World) (hf : R64 f) : Calls Tryd.prog 6 #[.agg (relC n f)] w fun e w' => e = .returned (.bool (rightB n f)) ∧ Below w.heap.size w w' := by
  have hN := (RelAt.new w n f).num
  have hB : Below w.heap.size w (w.alloc (.cells (relC n f) 26)) := (Below.refl _ w).alloc (Nat.le_refl _) _
  have CS := Lib.hid (fun w => sized_any n w)
  have CA := Lib.hid (fun w => all_any n w)
  cases hs : sizedB n
  · have hr := Lib.hid (show rightB n f = false by simp [rightB, hs])
    rw [hs] at CS
    clear hs
    go_enter Tryd.func6, Tryd.ntmps6
    go_wp2_with fail
    refine (CS.out _).mono ?_
    rintro e w1 ⟨rfl, rfl⟩
    go_wp2
    go_ret
    rw [hr.out]
    exact ⟨rfl, hB⟩
  · obtain ⟨hn0, hn1⟩ := sizedB_iff.1 hs
    rw [hs] at CS
    have HA := Lib.hid ((RelAt.new w n f).ldA)
    have HI := Lib.hid (fun (k : Nat) (hk : k < 48) W => ixArr_row f (k : Int) W (by omega) (by omega))
    have HR := Lib.hid (fun k => row_test n f k hf hn0 hn1)
    have hr := Lib.hid (show rightB n f = (List.range 48).all (okRow n f) by simp [rightB, hs])
    clear hs
    have ha := HA.out
    go_enter Tryd.func6, Tryd.ntmps6
    go_wp2_with fail
    refine (CS.out _).mono ?_
    rintro e w1 ⟨rfl, rfl⟩
    go_wp2_with fail
    refine (CA.out _).mono ?_
    rintro e w1 ⟨rfl, rfl⟩
    go_wp2
    clear ha
    go_loop [3, 15] (fun s i => ∃ k : Nat, k ≤ 48 ∧ i = .int .i64 k ∧ s = .int .u64 (itemsN n k) ∧ (List.range k).all (okRow n f) = true) (fun _ i => 48 - (intOf i).toNat)
    case atStart => exact ⟨0, by omega, rfl, by unfold itemsN; rw [if_neg (by omega)], rfl⟩
    case round =>
      obtain ⟨k, hk, rfl, rfl, hall⟩ := hrel
      have Hall := Lib.hid hall
      clear hall
      by_cases hlt : k < 48
      · have hi := HI.out k hlt
        have ht := HR.out k
        rw [Int.toNat_natCast] at hi
        by_cases hnk : n ≤ (k : Int)
        · have h0 : itemsN n (k + 1) = 0 := by unfold itemsN; rw [if_pos (by omega)]
          rw [h0] at ht
          cases ho : okRow n f k
          · have hr2 := Lib.hid (show (List.range 48).all (okRow n f) = false by
              rw [Bool.eq_false_iff]; intro hc; rw [List.all_eq_true] at hc; have := hc k (by simpa using hlt); rw [ho] at this; cases this)
            rw [ho] at ht
            replace h0 := Lib.hid h0
            clear ho
            go_wp2
            go_ret
            rw [hr.out, hr2.out]
            exact ⟨rfl, hB⟩
          · have hr2 := Lib.hid (show (List.range (k + 1)).all (okRow n f) = true by
              rw [List.range_succ, List.all_append, Hall.out]; simp [ho])
            rw [ho] at ht
            replace h0 := Lib.hid h0
            clear ho
            go_wp2
            go_round
            case rel => exact ⟨k + 1, by omega, by go_num, by rw [h0.out], hr2.out⟩
            case measure => simp [intOf]; omega
        · have h0 : itemsN n (k + 1) = itemsN n k := by unfold itemsN; rw [if_neg (by omega), if_neg (by omega)]
          rw [h0] at ht
          cases ho : okRow n f k
          · have hr2 := Lib.hid (show (List.range 48).all (okRow n f) = false by
              rw [Bool.eq_false_iff]; intro hc; rw [List.all_eq_true] at hc; have := hc k (by simpa using hlt); rw [ho] at this; cases this)
            rw [ho] at ht
            replace h0 := Lib.hid h0
            clear ho
            go_wp2
            go_ret
            rw [hr.out, hr2.out]
            exact ⟨rfl, hB⟩
          · have hr2 := Lib.hid (show (List.range (k + 1)).all (okRow n f) = true by
              rw [List.range_succ, List.all_append, Hall.out]; simp [ho])
            rw [ho] at ht
            replace h0 := Lib.hid h0
            clear ho
            go_wp2
            go_round
            case rel => exact ⟨k + 1, by omega, by go_num, by rw [h0.out], hr2.out⟩
            case measure => simp [intOf]; omega
      · obtain rfl : k = 48 := by omega
        go_wp2
        go_ret
        rw [hr.out, Hall.out]
        exact ⟨rfl, hB⟩
end Go.Proofs.YtakhmjohncidoaaDoor
