/- The document's answers for layer 1, function by function: Has, With, All, Rank, Next. -/
import Derived.Test.YtacfamelnaocmaaDoorMarksAllLaw
namespace Go.Proofs.YtacfamelnaocmaaDoor
open Go.RowKit Go.Shelf

theorem shr_bit (x i : Int) (h0 : 0 ≤ x) : (x / 2 ^ i.toNat) % 2 = if x.toNat.testBit i.toNat then 1 else 0 := by
  rw [Nat.testBit_eq_decide_div_mod_eq]
  obtain ⟨X, rfl⟩ := Int.eq_ofNat_of_zero_le h0
  have e : ((X : Int) / 2 ^ i.toNat) = ((X / 2 ^ i.toNat : Nat) : Int) := by simp
  rw [e, Int.toNat_natCast]
  generalize X / 2 ^ i.toNat = y
  by_cases h : y % 2 = 1
  · simp [h]; omega
  · simp [h]; omega

set_option maxHeartbeats 400000 in
theorem has_any (x i : Int) (h0 : 0 ≤ x) (_h1 : x < 18446744073709551616) (i0 : 0 ≤ i) (i1 : i < 64) (w : World) :
    Calls Tryd.prog 33 #[.int .u64 x, .int .i64 i] w fun e w' => e = .returned (.bool (x.toNat.testBit i.toNat)) ∧ w = w' := by
  have t0 : decide (0 ≤ i) = true := by simpa using i0
  have t1 : decide (i < 64) = true := by simpa using i1
  have hb := shr_bit x i h0
  have hd : 0 ≤ x / 2 ^ i.toNat := Int.ediv_nonneg h0 (Int.le_of_lt (Int.pow_pos (by decide)))
  have hle : x / 2 ^ i.toNat ≤ x := Int.ediv_le_self _ h0
  cases h : x.toNat.testBit i.toNat
  · rw [h] at hb
    have hb' : x / 2 ^ i.toNat % 2 = 0 := hb
    clear hb h
    go_enter Tryd.func33, Tryd.ntmps33
    go_wp2
    go_ret
    exact ⟨rfl, rfl⟩
  · rw [h] at hb
    have hb' : x / 2 ^ i.toNat % 2 = 1 := hb
    clear hb h
    go_enter Tryd.func33, Tryd.ntmps33
    go_wp2
    go_ret
    exact ⟨rfl, rfl⟩

/-- A set and one number more. -/
def withOf (x i : Int) : Int := ((x.toNat ||| 2 ^ i.toNat : Nat) : Int)
theorem withOf_bd (x i : Int) (h0 : 0 ≤ x) (h1 : x < 18446744073709551616) (i0 : 0 ≤ i) (i1 : i < 64) : 0 ≤ withOf x i ∧ withOf x i < 18446744073709551616 := by
  have h : x.toNat ||| 2 ^ i.toNat < 2 ^ 64 := Nat.or_lt_two_pow (by omega) (Nat.pow_lt_pow_right (by omega) (by omega))
  unfold withOf
  omega
theorem withOf_has (x i : Int) (h0 : 0 ≤ x) (h : x.toNat.testBit i.toNat = true) : withOf x i = x := by
  have e : x.toNat ||| 2 ^ i.toNat = x.toNat := by
    apply Nat.eq_of_testBit_eq
    intro j
    rw [Nat.testBit_or, Nat.testBit_two_pow]
    by_cases hj : i.toNat = j
    · subst hj; simp [h]
    · simp [hj]
  unfold withOf
  rw [e]
  omega
theorem or_pow_add (x i : Nat) (h : x.testBit i = false) : x ||| 2 ^ i = x + 2 ^ i := by
  have hp := Nat.two_pow_pos i
  have hd := Nat.div_add_mod x (2 ^ i)
  have hlt := Nat.mod_lt x hp
  rw [Nat.testBit_eq_decide_div_mod_eq] at h
  simp only [decide_eq_false_iff_not] at h
  have e2 : x = 2 ^ i * (2 * (x / 2 ^ i / 2)) + x % 2 ^ i := by
    have : 2 * (x / 2 ^ i / 2) = x / 2 ^ i := by omega
    rw [this]; omega
  have e3 : x + 2 ^ i = 2 ^ i * (2 * (x / 2 ^ i / 2) + 1) + x % 2 ^ i := by rw [Nat.mul_add]; omega
  apply Nat.eq_of_testBit_eq
  intro j
  rw [e3, Nat.testBit_or, Nat.testBit_two_pow, Nat.testBit_two_pow_mul_add _ hlt]
  have hx : x.testBit j = if j < i then (x % 2 ^ i).testBit j else (2 * (x / 2 ^ i / 2)).testBit (j - i) := by
    have := Nat.testBit_two_pow_mul_add (2 * (x / 2 ^ i / 2)) hlt j
    rwa [← e2] at this
  rw [hx]
  by_cases hj : j < i
  · have : i ≠ j := by omega
    simp [hj, this]
  · by_cases hji : j = i
    · subst hji; simp [Nat.testBit_zero]
    · have : i ≠ j := fun e => hji e.symm
      obtain ⟨d, rfl⟩ : ∃ d, j = i + (d + 1) := ⟨j - i - 1, by omega⟩
      rw [if_neg hj, if_neg hj, show i + (d + 1) - i = d + 1 by omega, Nat.testBit_succ, Nat.testBit_succ]
      simp only [this, decide_false, Bool.or_false]
      congr 1
      omega
theorem withOf_not (x i : Int) (h0 : 0 ≤ x) (h1 : x < 18446744073709551616) (i0 : 0 ≤ i) (i1 : i < 64) (h : x.toNat.testBit i.toNat = false) : IntKind.u64.wrap (x + IntKind.u64.wrap (2 ^ i.toNat)) = withOf x i := by
  have hb := withOf_bd x i h0 h1 i0 i1
  rw [shl1_u64 i i0 i1]
  unfold withOf at *
  rw [or_pow_add x.toNat i.toNat h] at *
  generalize 2 ^ i.toNat = p at *
  rw [IntKind.wrap_u64]
  omega

set_option maxHeartbeats 400000 in
theorem with_any (x i : Int) (h0 : 0 ≤ x) (h1 : x < 18446744073709551616) (i0 : 0 ≤ i) (i1 : i < 64) (w : World) :
    Calls Tryd.prog 30 #[.int .u64 x, .int .i64 i] w fun e w' => e = .returned (.int .u64 (withOf x i)) ∧ w = w' := by
  have t0 : decide (i < 0) = false := by simp; omega
  have t1 : decide (63 < i) = false := by simp; omega
  have CH := has_any x i h0 h1 i0 i1 w
  cases h : x.toNat.testBit i.toNat
  · rw [h] at CH
    replace CH := Lib.hid CH
    have hw := Lib.hid (withOf_not x i h0 h1 i0 i1 h)
    clear h
    go_enter Tryd.func30, Tryd.ntmps30
    go_wp2_with fail
    refine CH.out.mono ?_
    rintro e w1 ⟨rfl, rfl⟩
    go_wp2
    go_ret
    rw [← hw.out]
    exact ⟨rfl, rfl⟩
  · rw [h] at CH
    replace CH := Lib.hid CH
    have hw := Lib.hid (withOf_has x i h0 h)
    clear h
    go_enter Tryd.func30, Tryd.ntmps30
    go_wp2_with fail
    refine CH.out.mono ?_
    rintro e w1 ⟨rfl, rfl⟩
    go_wp2
    go_ret
    rw [hw.out]
    exact ⟨rfl, rfl⟩
end Go.Proofs.YtacfamelnaocmaaDoor
