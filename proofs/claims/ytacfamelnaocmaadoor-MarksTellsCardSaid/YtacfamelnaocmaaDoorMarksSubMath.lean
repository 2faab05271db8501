/- The subsets of a set in their order: plain facts on numbers, no program. -/
import Derived.Test.YtacfamelnaocmaaDoorMarksMath
namespace Go.Proofs.YtacfamelnaocmaaDoor
open Go Go.RowKit
namespace MM

/-- The subset of the elements l whose places are the bits of n. -/
def pdep : List Nat → Nat → Nat
  | [], _ => 0
  | b :: bs, n => (if n % 2 = 1 then 2 ^ b else 0) ||| pdep bs (n / 2)

theorem pdep_bit (b : Nat) (bs : List Nat) (n j : Nat) : (pdep (b :: bs) n).testBit j = ((decide (n % 2 = 1) && decide (b = j)) || (pdep bs (n / 2)).testBit j) := by
  rw [pdep, Nat.testBit_or]
  congr 1
  by_cases h : n % 2 = 1
  · rw [if_pos h, Nat.testBit_two_pow]; simp [h]
  · rw [if_neg h]; simp [h]

/-- y follows x among the subsets of l. -/
def Succ (l : List Nat) (x y : Nat) : Prop :=
  ∃ k ∈ l, x.testBit k = false ∧ (∀ j ∈ l, j < k → x.testBit j = true) ∧ ∀ j, y.testBit j = if j < k then false else if j = k then true else x.testBit j

theorem pdep_none {l : List Nat} {j : Nat} (n : Nat) (h : j ∉ l) : (pdep l n).testBit j = false := by
  induction l generalizing n with
  | nil => simp [pdep]
  | cons b bs ih =>
    rw [pdep_bit, ih _ (fun hm => h (by simp [hm]))]
    have : b ≠ j := fun e => h (by simp [e])
    simp [this]

theorem pdep_succ : ∀ (l : List Nat) (n : Nat), l.Pairwise (· < ·) → n + 1 < 2 ^ l.length → Succ l (pdep l n) (pdep l (n + 1))
  | [], n, _, h => by simp at h
  | b :: bs, n, hp, h => by
    obtain ⟨hb, hp'⟩ := List.pairwise_cons.1 hp
    have hnb : b ∉ bs := fun hm => Nat.lt_irrefl _ (hb b hm)
    by_cases hn : n % 2 = 1
    · have e : (n + 1) / 2 = n / 2 + 1 := by omega
      obtain ⟨k, hk, hk0, hk1, hk2⟩ := pdep_succ bs (n / 2) hp' (by rw [List.length_cons, Nat.pow_succ] at h; omega)
      have hbk := hb k hk
      refine ⟨k, by simp [hk], ?_, ?_, ?_⟩
      · rw [pdep_bit, hk0]; simp; omega
      · intro j hj hjk
        rcases List.mem_cons.1 hj with rfl | hj
        · rw [pdep_bit]; simp [hn]
        · rw [pdep_bit, hk1 j hj hjk]; simp
      · intro j
        rw [pdep_bit, e, hk2 j, pdep_bit]
        have h2 : (n + 1) % 2 ≠ 1 := by omega
        by_cases h3 : j < k
        · simp [h2, h3]
        · by_cases h4 : j = k
          · simp [h4]
          · have : b ≠ j := by omega
            simp [h2, h3, h4, this]
    · have e : (n + 1) / 2 = n / 2 := by omega
      have h2 : (n + 1) % 2 = 1 := by omega
      refine ⟨b, by simp, ?_, ?_, ?_⟩
      · rw [pdep_bit, pdep_none _ hnb]; simp [hn]
      · intro j hj hjk
        rcases List.mem_cons.1 hj with rfl | hj
        · omega
        · have := hb j hj; omega
      · intro j
        rw [pdep_bit, e, pdep_bit]
        by_cases h3 : j < b
        · have : b ≠ j := by omega
          rw [pdep_none _ (fun hm => by have := hb j hm; omega)]
          simp [h3, this]
        · by_cases h4 : j = b
          · simp [h4, h2]
          · have : b ≠ j := fun e => h4 e.symm
            simp [h3, h4, this]

theorem els_sorted (s : Nat) : (els s).Pairwise (· < ·) := List.Pairwise.filter _ List.pairwise_lt_range

theorem pdep_sub {l : List Nat} {n j : Nat} (h : (pdep l n).testBit j = true) : j ∈ l := by
  by_cases hm : j ∈ l
  · exact hm
  · rw [pdep_none n hm] at h; cases h

theorem pdep_lt (s n : Nat) : pdep (els s) n < 2 ^ 64 := by
  apply Nat.lt_pow_two_of_testBit
  intro i hi
  exact pdep_none n (fun hm => by have := els_lt hm; omega)

theorem pdep_zero (l : List Nat) : pdep l 0 = 0 := by
  induction l with
  | nil => rfl
  | cons b bs ih => rw [pdep]; simp [ih]

theorem pdep_last (l : List Nat) (j : Nat) : (pdep l (2 ^ l.length - 1)).testBit j = decide (j ∈ l) := by
  induction l with
  | nil => simp [pdep]
  | cons b bs ih =>
    have hp := Nat.two_pow_pos bs.length
    have e1 : (2 ^ (b :: bs).length - 1) % 2 = 1 := by rw [List.length_cons, Nat.pow_succ]; omega
    have e2 : (2 ^ (b :: bs).length - 1) / 2 = 2 ^ bs.length - 1 := by rw [List.length_cons, Nat.pow_succ]; omega
    rw [pdep_bit, e1, e2, ih]
    by_cases h : b = j
    · simp [h]
    · have : j ≠ b := fun e => h e.symm
      simp [h, this]

theorem pdep_full (s : Nat) (hs : s < 2 ^ 64) : pdep (els s) (2 ^ (els s).length - 1) = s := by
  apply Nat.eq_of_testBit_eq
  intro j
  rw [pdep_last]
  by_cases h : j ∈ els s
  · have := mem_els.1 h; simp [h, this.2]
  · by_cases hj : j < 64
    · cases hb : s.testBit j
      · simp [h]
      · exact absurd (mem_els.2 ⟨hj, hb⟩) h
    · rw [Nat.testBit_lt_two_pow (Nat.lt_of_lt_of_le hs (Nat.pow_le_pow_right (by omega) (by omega)))]
      simp [h]

/-- Of two subsets the one with the greater number is greater. -/
theorem succ_lt {l : List Nat} {x y : Nat} (h : Succ l x y) : x < y := by
  obtain ⟨k, _, h0, _, h2⟩ := h
  have e : x / 2 ^ (k + 1) = y / 2 ^ (k + 1) := by
    apply Nat.eq_of_testBit_eq
    intro j
    rw [Nat.testBit_div_two_pow, Nat.testBit_div_two_pow, h2, if_neg (by omega), if_neg (by omega)]
  have hy : y.testBit k = true := by rw [h2]; simp
  rw [Nat.testBit_eq_decide_div_mod_eq] at h0 hy
  simp only [decide_eq_false_iff_not, decide_eq_true_eq] at h0 hy
  rw [Nat.pow_succ, ← Nat.div_div_eq_div_mul, ← Nat.div_div_eq_div_mul] at e
  have hlt : x / 2 ^ k < y / 2 ^ k := by omega
  exact Nat.lt_of_not_le fun hle => Nat.not_lt.2 (Nat.div_le_div_right hle) hlt

theorem pdep_mono (l : List Nat) (hl : l.Pairwise (· < ·)) (n m : Nat) (h : n < m) (hm : m < 2 ^ l.length) : pdep l n < pdep l m := by
  induction m with
  | zero => omega
  | succ m ih =>
    have h1 := succ_lt (pdep_succ l m hl hm)
    by_cases e : n = m
    · rw [e]; exact h1
    · have := ih (by omega) (by omega); omega

theorem succ_unique (s x y d k m : Nat) (hxs : ∀ j, x.testBit j = true → s.testBit j = true) (h : Succ (els s) x y)
    (hd : ∀ j, d.testBit j = (s.testBit j && !x.testBit j)) (hs : s < 2 ^ 64) (hk : d = 2 ^ k * (2 * m + 1)) :
    s &&& (2 ^ 64 - d) = y := by
  obtain ⟨k', hk', h0, h1, h2⟩ := h
  have hb := bit_low k m
  rw [← hk] at hb
  have hpred := bit_pred k m
  rw [← hk] at hpred
  have hk64 := mem_els.1 hk'
  have hdk' : d.testBit k' = true := by rw [hd, h0, hk64.2]; rfl
  have e : k' = k := by
    apply Decidable.byContradiction
    intro hne
    have hlow : ∀ j, j < k' → d.testBit j = false := by
      intro j hj
      rw [hd]
      cases hsj : s.testBit j
      · rfl
      · rw [h1 j (mem_els.2 ⟨by omega, hsj⟩) hj]; rfl
    by_cases h3 : k' < k
    · rw [hb, if_pos h3] at hdk'; cases hdk'
    · have := hlow k (by omega)
      rw [hb] at this; simp at this
  subst e
  have hdle : d ≤ 2 ^ 64 := by
    apply Nat.le_of_lt
    apply Nat.lt_pow_two_of_testBit
    intro i hi
    rw [hd, Nat.testBit_lt_two_pow (Nat.lt_of_lt_of_le hs (Nat.pow_le_pow_right (by omega) hi))]
    rfl
  have hdpos : 0 < d := by rw [hk]; exact Nat.mul_pos (Nat.two_pow_pos _) (by omega)
  apply Nat.eq_of_testBit_eq
  intro j
  rw [Nat.testBit_and, show 2 ^ 64 - d = 2 ^ 64 - (d - 1 + 1) by omega, Nat.testBit_two_pow_sub_succ (by omega), hpred, h2]
  by_cases h3 : j < k'
  · simp [h3]
  · by_cases h4 : j = k'
    · subst h4; simp [hk64.1, hk64.2]
    · have hdj := hd j
      rw [hb, if_neg h3, if_neg h4] at hdj
      rw [if_neg h3, if_neg h4, if_neg h3, if_neg h4, hdj]
      cases hsj : s.testBit j
      · cases hxj : x.testBit j
        · rfl
        · rw [hxs j hxj] at hsj; cases hsj
      · have hj : j < 64 := by
          apply Decidable.byContradiction
          intro hj
          rw [Nat.testBit_lt_two_pow (Nat.lt_of_lt_of_le hs (Nat.pow_le_pow_right (by omega) (by omega)))] at hsj
          cases hsj
        cases hxj : x.testBit j <;> simp [hj]
end MM
end Go.Proofs.YtacfamelnaocmaaDoor
