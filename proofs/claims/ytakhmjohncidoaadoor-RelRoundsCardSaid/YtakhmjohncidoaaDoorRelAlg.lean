/- The relations' algebra: right relations by their pairs. -/
import Derived.Test.YtakhmjohncidoaaDoorRelRing3
namespace Go.Proofs.YtakhmjohncidoaaDoor
open Go.RowKit Go.Shelf

/-- Are these two a pair of the relation? -/
abbrev Bt (f : Nat → Nat) (i j : Nat) : Prop := (f i).testBit j = true
/-- A relation on N items. -/
def Rgt (N : Nat) (f : Nat → Nat) : Prop := rightB (N : Int) f = true

theorem lt_of_bits {x m : Nat} (h : ∀ j, x.testBit j = true → j < m) : x < 2 ^ m := by
  apply Nat.lt_pow_two_of_testBit
  intro i hi
  apply Decidable.byContradiction
  intro hc
  have := h i (by simpa using hc)
  omega
theorem bit_lt {x m j : Nat} (h : x < 2 ^ m) (hj : x.testBit j = true) : j < m := by
  apply Decidable.byContradiction
  intro hc
  rw [Nat.testBit_lt_two_pow (Nat.lt_of_lt_of_le h (Nat.pow_le_pow_right (by omega) (by omega)))] at hj
  cases hj
theorem rgt_iff {N : Nat} {f : Nat → Nat} : Rgt N f ↔ N ≤ 48 ∧ ∀ i, i < 48 → ∀ j, Bt f i j → i < N ∧ j < N := by
  unfold Rgt
  rw [rightB_iff]
  constructor
  · rintro ⟨⟨_, h1⟩, hr⟩
    refine ⟨by omega, fun i hi j hj => ?_⟩
    have := hr i hi
    unfold okRow at this
    split at this
    · have h2 : f i < 2 ^ N := by simpa using this
      exact ⟨by omega, bit_lt h2 hj⟩
    · have h2 : f i = 0 := by simpa using this
      unfold Bt at hj
      rw [h2] at hj
      simp at hj
  · rintro ⟨h1, hr⟩
    refine ⟨⟨by omega, by omega⟩, fun i hi => ?_⟩
    unfold okRow
    split
    · have : f i < 2 ^ N := lt_of_bits fun j hj => (hr i hi j hj).2
      simpa using this
    · have : f i = 0 := by
        apply Nat.eq_of_testBit_eq
        intro j
        rw [Nat.zero_testBit]
        apply Decidable.byContradiction
        intro hc
        have := (hr i hi j (by simpa using hc)).1
        omega
      simpa using this
theorem Rgt.le {N : Nat} {f : Nat → Nat} (h : Rgt N f) : N ≤ 48 := (rgt_iff.1 h).1
theorem Rgt.fst {N : Nat} {f : Nat → Nat} (h : Rgt N f) {i j : Nat} (hi : i < 48) (hj : Bt f i j) : i < N := ((rgt_iff.1 h).2 i hi j hj).1
theorem Rgt.snd {N : Nat} {f : Nat → Nat} (h : Rgt N f) {i j : Nat} (hi : i < 48) (hj : Bt f i j) : j < N := ((rgt_iff.1 h).2 i hi j hj).2
theorem Rgt.snd48 {N : Nat} {f : Nat → Nat} (h : Rgt N f) {i j : Nat} (hi : i < 48) (hj : Bt f i j) : j < 48 := Nat.lt_of_lt_of_le (h.snd hi hj) h.le
theorem Rgt.zero {N : Nat} {f : Nat → Nat} (h : Rgt N f) {i : Nat} (hi : i < 48) (hn : N ≤ i) : f i = 0 := by
  apply Nat.eq_of_testBit_eq
  intro j
  rw [Nat.zero_testBit]
  apply Decidable.byContradiction
  intro hc
  have := h.fst hi (show Bt f i j by simpa using hc)
  omega
theorem Rgt.cut {N : Nat} {f : Nat → Nat} (h : Rgt N f) : relC N (cutF N f) = relC N f := by
  refine relC_congr fun i hi => ?_
  unfold cutF
  split
  · rfl
  · exact (h.zero hi (by omega)).symm
/-- Two relations on the same items with the same pairs. -/
theorem same_bits {f g : Nat → Nat} (h : ∀ i j, i < 48 → (Bt f i j ↔ Bt g i j)) : ∀ i, i < 48 → f i = g i := by
  intro i hi
  apply Nat.eq_of_testBit_eq
  intro j
  rw [Bool.eq_iff_iff]
  exact h i j hi
theorem relC_bits {N : Int} {f g : Nat → Nat} (h : ∀ i j, i < 48 → (Bt f i j ↔ Bt g i j)) : relC N f = relC N g := relC_congr (same_bits h)
theorem relB_bits {N : Int} {f g : Nat → Nat} (h : ∀ i j, i < 48 → (Bt f i j ↔ Bt g i j)) : relB N N f g = true := relB_same (same_bits h)

theorem bt_union (f g : Nat → Nat) (i j : Nat) : Bt (unionF f g) i j ↔ Bt f i j ∨ Bt g i j := by simp [Bt, unionF]
theorem bt_both (f g : Nat → Nat) (i j : Nat) : Bt (bothF f g) i j ↔ Bt f i j ∧ Bt g i j := by simp [Bt, bothF]
theorem bt_less {f g : Nat → Nat} (hf : R64 f) (hg : R64 g) (i j : Nat) : Bt (lessF f g) i j ↔ Bt f i j ∧ ¬ Bt g i j := by
  unfold Bt lessF
  have hc : 18446744073709551615 - g i = 2 ^ 64 - 1 - g i := by rfl
  rw [Nat.testBit_and, hc, show 2 ^ 64 - 1 - g i = 2 ^ 64 - (g i + 1) by omega, Nat.testBit_two_pow_sub_succ (hg i)]
  by_cases hj : j < 64
  · simp [hj]
  · have : (f i).testBit j = false := Nat.testBit_lt_two_pow (Nat.lt_of_lt_of_le (hf i) (Nat.pow_le_pow_right (by omega) (by omega)))
    simp [this]
theorem bt_img {g : Nat → Nat} {s j : Nat} : (imgF g s).testBit j = true ↔ ∃ k, k < 64 ∧ s.testBit k = true ∧ Bt g k j := by
  unfold imgF
  have key : ∀ (l : List Nat) (x : Nat), ((l.foldl (fun s i => s ||| g i) x).testBit j = true ↔ x.testBit j = true ∨ ∃ k ∈ l, Bt g k j) := by
    intro l
    induction l with
    | nil => intro x; simp
    | cons a l ih =>
      intro x
      rw [List.foldl_cons, ih, Nat.testBit_or, Bool.or_eq_true]
      constructor
      · rintro ((h | h) | ⟨k, hk, h⟩)
        · exact .inl h
        · exact .inr ⟨a, by simp, h⟩
        · exact .inr ⟨k, by simp [hk], h⟩
      · rintro (h | ⟨k, hk, h⟩)
        · exact .inl (.inl h)
        · rcases List.mem_cons.1 hk with rfl | hk
          · exact .inl (.inr h)
          · exact .inr ⟨k, hk, h⟩
  unfold imgL
  rw [key]
  simp only [Nat.zero_testBit, Bool.false_eq_true, false_or]
  constructor
  · rintro ⟨k, hk, h⟩
    obtain ⟨h1, h2⟩ := MM.mem_els.1 hk
    exact ⟨k, h1, h2, h⟩
  · rintro ⟨k, h1, h2, h⟩
    exact ⟨k, MM.mem_els.2 ⟨h1, h2⟩, h⟩
theorem bt_then {N : Nat} {f g : Nat → Nat} (hf : Rgt N f) {i j : Nat} (hi : i < 48) : Bt (thenF f g) i j ↔ ∃ k, k < 48 ∧ Bt f i k ∧ Bt g k j := by
  unfold Bt thenF
  rw [bt_img]
  constructor
  · rintro ⟨k, _, h1, h2⟩
    exact ⟨k, hf.snd48 hi h1, h1, h2⟩
  · rintro ⟨k, hk, h1, h2⟩
    exact ⟨k, by omega, h1, h2⟩

theorem rgt_union {N : Nat} {f g : Nat → Nat} (hf : Rgt N f) (hg : Rgt N g) : Rgt N (unionF f g) :=
  rgt_iff.2 ⟨hf.le, fun i hi j h => by
    rcases (bt_union f g i j).1 h with h | h
    · exact ⟨hf.fst hi h, hf.snd hi h⟩
    · exact ⟨hg.fst hi h, hg.snd hi h⟩⟩
theorem rgt_both {N : Nat} {f g : Nat → Nat} (hf : Rgt N f) : Rgt N (bothF f g) :=
  rgt_iff.2 ⟨hf.le, fun i hi j h => by
    have h := ((bt_both f g i j).1 h).1
    exact ⟨hf.fst hi h, hf.snd hi h⟩⟩
theorem rgt_less {N : Nat} {f g : Nat → Nat} (hf : Rgt N f) : Rgt N (lessF f g) :=
  rgt_iff.2 ⟨hf.le, fun i hi j h => by
    have h : Bt f i j := by
      unfold Bt lessF at h
      rw [Nat.testBit_and, Bool.and_eq_true] at h
      exact h.1
    exact ⟨hf.fst hi h, hf.snd hi h⟩⟩
theorem rgt_then {N : Nat} {f g : Nat → Nat} (hf : Rgt N f) (hg : Rgt N g) : Rgt N (thenF f g) :=
  rgt_iff.2 ⟨hf.le, fun i hi j h => by
    obtain ⟨k, hk, h1, h2⟩ := (bt_then hf hi).1 h
    exact ⟨hf.fst hi h1, hg.snd hk h2⟩⟩

/-- The pairs of a relation, as a list. -/
theorem mem_pairsK {f : Nat → Nat} {N : Nat} {x : It × It} : x ∈ pairsK f N ↔ x.1.1 < N ∧ Bt f x.1.1 x.2.1 := by
  have hall : ∀ a : It, a ∈ allIt := by
    intro a
    unfold allIt
    rw [List.mem_map]
    exact ⟨⟨a.1, List.mem_range.2 a.2⟩, List.mem_attach _ _, rfl⟩
  unfold pairsK rowP itS
  rw [List.mem_flatMap]
  constructor
  · rintro ⟨a, ha, hx⟩
    obtain ⟨b, hb, rfl⟩ := List.mem_map.1 hx
    rw [List.mem_filter] at ha hb
    exact ⟨by simpa using ha.2, hb.2⟩
  · rintro ⟨h1, h2⟩
    exact ⟨x.1, List.mem_filter.2 ⟨hall _, by simpa using h1⟩, List.mem_map.2 ⟨x.2, List.mem_filter.2 ⟨hall _, h2⟩, rfl⟩⟩
theorem bt_backL (l : List (It × It)) (i j : Nat) : Bt (backL l) j i ↔ ∃ x ∈ l, x.1.1 = i ∧ x.2.1 = j := by
  unfold backL
  have key : ∀ (l : List (It × It)) (g : Nat → Nat), (Bt (l.foldl (fun g x => upd g x.2.1 (g x.2.1 ||| 2 ^ x.1.1)) g) j i ↔ Bt g j i ∨ ∃ x ∈ l, x.1.1 = i ∧ x.2.1 = j) := by
    intro l
    induction l with
    | nil => intro g; simp
    | cons a l ih =>
      intro g
      rw [List.foldl_cons, ih]
      have hu : Bt (upd g a.2.1 (g a.2.1 ||| 2 ^ a.1.1)) j i ↔ Bt g j i ∨ (a.1.1 = i ∧ a.2.1 = j) := by
        unfold Bt upd
        by_cases hj : j = a.2.1
        · subst hj
          rw [if_pos rfl, Nat.testBit_or, Nat.testBit_two_pow]
          simp
        · rw [if_neg hj]
          constructor
          · exact .inl
          · rintro (h | ⟨_, h⟩)
            · exact h
            · exact absurd h.symm hj
      rw [hu]
      constructor
      · rintro ((h | h) | ⟨x, hx, h⟩)
        · exact .inl h
        · exact .inr ⟨a, by simp, h⟩
        · exact .inr ⟨x, by simp [hx], h⟩
      · rintro (h | ⟨x, hx, h⟩)
        · exact .inl (.inl h)
        · rcases List.mem_cons.1 hx with rfl | hx
          · exact .inl (.inr h)
          · exact .inr ⟨x, hx, h⟩
  rw [key]
  simp [Bt, zf]
/-- The inverse. -/
def backF (N : Nat) (f : Nat → Nat) : Nat → Nat := backL (pairsK f N)
theorem bt_back {N : Nat} {f : Nat → Nat} (hf : Rgt N f) {i j : Nat} (hj : j < 48) : Bt (backF N f) j i ↔ i < 48 ∧ Bt f i j := by
  unfold backF
  rw [bt_backL]
  constructor
  · rintro ⟨x, hx, rfl, rfl⟩
    exact ⟨x.1.2, (mem_pairsK.1 hx).2⟩
  · rintro ⟨hi, h⟩
    exact ⟨(⟨i, hi⟩, ⟨j, hj⟩), mem_pairsK.2 ⟨hf.fst hi h, h⟩, rfl, rfl⟩
theorem rgt_back {N : Nat} {f : Nat → Nat} (hf : Rgt N f) : Rgt N (backF N f) :=
  rgt_iff.2 ⟨hf.le, fun j hj i h => by
    obtain ⟨hi, h⟩ := (bt_back hf hj).1 h
    exact ⟨hf.snd hi h, hf.fst hi h⟩⟩
theorem comb_ok {N : Nat} {f g : Nat → Nat} (hf : Rgt N f) (hg : Rgt N g) : combB N N f g = true := combB_iff.2 ⟨rfl, hf, hg⟩
end Go.Proofs.YtakhmjohncidoaaDoor
