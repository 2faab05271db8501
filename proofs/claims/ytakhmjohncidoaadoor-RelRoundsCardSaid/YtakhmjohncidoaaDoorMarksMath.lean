/- Sets of 64 bits as lists of their elements: plain facts on numbers, no program. -/
import Derived.WalkKit
import Derived.Laws.BitsAllLaws
namespace Go.Proofs.YtakhmjohncidoaaDoor
open Go Go.RowKit
namespace MM
/-- The elements of a set of 64 bits, in increasing order. -/
def els (s : Nat) : List Nat := (List.range 64).filter fun i => s.testBit i

theorem mem_els {s i : Nat} : i ∈ els s ↔ i < 64 ∧ s.testBit i = true := by simp [els]

theorem els_zero : els 0 = [] := by simp [els]

theorem els_lt {s i : Nat} (h : i ∈ els s) : i < 64 := (mem_els.1 h).1

theorem els_length (s : Nat) : (els s).length ≤ 64 := by
  have := List.length_filter_le (fun i => s.testBit i) (List.range 64)
  simpa [els] using this

theorem split_low : ∀ s : Nat, s ≠ 0 → ∃ k m, s = 2 ^ k * (2 * m + 1) := by
  intro s
  induction s using Nat.strongRecOn with
  | ind s ih =>
    intro h
    by_cases h2 : s % 2 = 1
    · exact ⟨0, s / 2, by omega⟩
    · obtain ⟨k, m, hk⟩ := ih (s / 2) (by omega) (by omega)
      exact ⟨k + 1, m, by rw [Nat.pow_succ, Nat.mul_comm (2 ^ k) 2, Nat.mul_assoc, ← hk]; omega⟩

theorem bit_low (k m j : Nat) : (2 ^ k * (2 * m + 1)).testBit j = if j < k then false else if j = k then true else m.testBit (j - k - 1) := by
  have h := Nat.testBit_two_pow_mul_add (2 * m + 1) (b := 0) (i := k) (Nat.two_pow_pos k) j
  rw [Nat.add_zero] at h
  rw [h]
  by_cases h1 : j < k
  · simp [h1]
  · by_cases h2 : j = k
    · subst h2; simp [Nat.testBit_zero]
    · obtain ⟨d, rfl⟩ : ∃ d, j = k + (d + 1) := ⟨j - k - 1, by omega⟩
      rw [if_neg h1, if_neg h1, if_neg h2, show k + (d + 1) - k = d + 1 by omega, Nat.testBit_succ]
      congr 1 <;> omega

theorem bit_pred (k m j : Nat) : (2 ^ k * (2 * m + 1) - 1).testBit j = if j < k then true else if j = k then false else m.testBit (j - k - 1) := by
  have hp := Nat.two_pow_pos k
  have e : 2 ^ k * (2 * m + 1) - 1 = 2 ^ k * (2 * m) + (2 ^ k - 1) := by rw [Nat.mul_add]; omega
  rw [e, Nat.testBit_two_pow_mul_add (2 * m) (b := 2 ^ k - 1) (i := k) (by omega) j]
  by_cases h1 : j < k
  · simp [h1, Nat.testBit_two_pow_sub_one]
  · by_cases h2 : j = k
    · subst h2; simp [Nat.testBit_zero]
    · obtain ⟨d, rfl⟩ : ∃ d, j = k + (d + 1) := ⟨j - k - 1, by omega⟩
      rw [if_neg h1, if_neg h1, if_neg h2, show k + (d + 1) - k = d + 1 by omega, Nat.testBit_succ]
      congr 1 <;> omega

theorem range_cut (k : Nat) (hk : k < 64) : List.range 64 = List.range' 0 k ++ k :: List.range' (k + 1) (63 - k) := by
  rw [List.range_eq_range', ← List.range'_succ, show 64 = k + (63 - k + 1) by omega]
  have := List.range'_append_1 (s := 0) (m := k) (n := 63 - k + 1)
  rw [Nat.zero_add] at this
  exact this.symm

/-- Taking the lowest bit off. -/
theorem els_step (s : Nat) (h0 : s ≠ 0) (h : s < 2 ^ 64) :
    ∃ k, k < 64 ∧ els s = k :: els (s &&& (s - 1)) ∧ s &&& (2 ^ 64 - s) = 2 ^ k ∧ s &&& (s - 1) < 2 ^ 64 := by
  obtain ⟨k, m, rfl⟩ := split_low s h0
  have hp := Nat.two_pow_pos k
  have hk : k < 64 := by
    apply Decidable.byContradiction
    intro hk
    have h1 : 2 ^ 64 ≤ 2 ^ k := Nat.pow_le_pow_right (by omega) (by omega)
    have h2 : 2 ^ k * 1 ≤ 2 ^ k * (2 * m + 1) := Nat.mul_le_mul_left _ (by omega)
    omega
  have hb : ∀ j, ((2 ^ k * (2 * m + 1)) &&& (2 ^ k * (2 * m + 1) - 1)).testBit j = ((2 ^ k * (2 * m + 1)).testBit j && decide (j ≠ k)) := by
    intro j
    rw [Nat.testBit_and, bit_low, bit_pred]
    by_cases h1 : j < k
    · simp [h1]
    · by_cases h2 : j = k
      · simp [h2]
      · simp [h1, h2]
  refine ⟨k, hk, ?_, ?_, Nat.lt_of_le_of_lt Nat.and_le_left h⟩
  · unfold els
    rw [range_cut k hk, List.filter_append, List.filter_append, List.filter_cons, List.filter_cons]
    have e1 : ∀ p : Nat → Bool, (∀ j, j < k → p j = false) → (List.range' 0 k).filter p = [] := by
      intro p hp1
      rw [List.filter_eq_nil_iff]
      intro j hj
      rw [List.mem_range'_1] at hj
      simp [hp1 j (by omega)]
    rw [e1 _ (fun j hj => by rw [bit_low, if_pos hj]), e1 _ (fun j hj => by rw [hb, bit_low, if_pos hj]; rfl)]
    rw [if_pos (by rw [bit_low]; simp), if_neg (by rw [hb]; simp)]
    simp only [List.nil_append, List.cons.injEq, true_and]
    apply List.filter_congr
    intro j hj
    rw [List.mem_range'_1] at hj
    rw [hb]
    simp [show j ≠ k by omega]
  · apply Nat.eq_of_testBit_eq
    intro j
    have hpos : 0 < 2 ^ k * (2 * m + 1) := Nat.mul_pos hp (by omega)
    have e : 2 ^ 64 - 2 ^ k * (2 * m + 1) = 2 ^ 64 - (2 ^ k * (2 * m + 1) - 1 + 1) := by omega
    rw [Nat.testBit_and, e, Nat.testBit_two_pow_sub_succ (by omega), bit_low, bit_pred, Nat.testBit_two_pow]
    by_cases h1 : j < k
    · simp [h1, show k ≠ j by omega]
    · by_cases h2 : j = k
      · subst h2; simp [hk]
      · simp only [h1, h2, if_false]
        have h3 : k ≠ j := fun e => h2 e.symm
        simp only [h3, decide_false]
        cases m.testBit (j - k - 1) <;> simp

def tab : List Nat := [0, 1, 56, 2, 57, 49, 28, 3, 61, 58, 42, 50, 38, 29, 17, 4, 62, 47, 59, 36, 45, 43, 51, 22, 53, 39, 33, 30, 24, 18, 12, 5, 63, 55, 48, 27, 60, 41, 37, 16, 46, 35, 44, 21, 52, 32, 23, 11, 54, 26, 40, 15, 34, 20, 31, 10, 25, 14, 19, 9, 13, 8, 7, 6]
theorem tab_hit : ∀ k, k < 64 → 2 ^ k * 285870213051353865 % 2 ^ 64 / 2 ^ 58 < 64 ∧ tab[2 ^ k * 285870213051353865 % 2 ^ 64 / 2 ^ 58]? = some k := by decide +kernel
end MM

/-- The index that the library computes for the lowest bit, in the walk's own spelling. -/
def tzIx (x : Int) : Int := IntKind.u64.wrap (bits BinOp.and IntKind.u64 x (IntKind.u64.wrap (-x)) * 285870213051353865) / 288230376151711744

namespace MM
theorem and_neg (x : Int) (h0 : 0 < x) (h1 : x < 18446744073709551616) : bits BinOp.and IntKind.u64 x (IntKind.u64.wrap (-x)) = ((x.toNat &&& (2 ^ 64 - x.toNat) : Nat) : Int) := by
  have e : IntKind.u64.wrap (-x) = ((2 ^ 64 - x.toNat : Nat) : Int) := by rw [IntKind.wrap_u64]; omega
  rw [e]
  have h := u64_and x ((2 ^ 64 - x.toNat : Nat) : Int) (by omega) h1 (by omega) (by omega)
  rw [h]
  rfl

/-- The lowest element: the index that the library computes is that of the element in the table; the rest of the set. -/
theorem low (x : Int) (h0 : 0 < x) (h1 : x < 18446744073709551616) :
    ∃ k, k < 64 ∧ els x.toNat = k :: els (bits BinOp.and IntKind.u64 x (x - 1)).toNat ∧ 0 ≤ tzIx x ∧ tzIx x < 64 ∧ tab[(tzIx x).toNat]? = some k ∧
      0 ≤ bits BinOp.and IntKind.u64 x (x - 1) ∧ bits BinOp.and IntKind.u64 x (x - 1) < 18446744073709551616 := by
  obtain ⟨k, hk, he, hp, hl⟩ := els_step x.toNat (by omega) (by omega)
  have hr : bits BinOp.and IntKind.u64 x (x - 1) = ((x.toNat &&& (x.toNat - 1) : Nat) : Int) := by
    have h := u64_and x (x - 1) (by omega) h1 (by omega) (by omega)
    rw [h, show (x - 1).toNat = x.toNat - 1 by omega]
  obtain ⟨t1, t2⟩ := tab_hit k hk
  have hx : tzIx x = ((2 ^ k * 285870213051353865 % 2 ^ 64 / 2 ^ 58 : Nat) : Int) := by
    unfold tzIx
    rw [and_neg x h0 h1, hp, IntKind.wrap_u64]
    generalize 2 ^ k = p
    omega
  refine ⟨k, hk, ?_, by omega, by omega, ?_, by omega, by omega⟩
  · rw [hr, Int.toNat_natCast]; exact he
  · rw [hx, Int.toNat_natCast]; exact t2
end MM
end Go.Proofs.YtakhmjohncidoaaDoor
