/- The transitive closure by its pairs. -/
import Derived.Test.YtnfkedcbhjbhkaaDoorRelFine
namespace Go.Proofs.YtnfkedcbhjbhkaaDoor
open Go.RowKit Go.Shelf

theorem fixed_exists {N : Nat} {f : Nat → Nat} (h : Rgt N f) : ∃ k, Fixed N f k := by
  suffices hs : ∀ m k, miss (iterF N f k) ≤ m → ∃ k, Fixed N f k from hs _ 0 (Nat.le_refl _)
  intro m
  induction m with
  | zero =>
    intro k hk
    cases hq : relB N N (cutF N (stepF (iterF N f k))) (iterF N f k)
    · have := miss_step (right_iter h k) hq
      omega
    · exact ⟨k, (relB_iff.1 hq).2⟩
  | succ m ih =>
    intro k hk
    cases hq : relB N N (cutF N (stepF (iterF N f k))) (iterF N f k)
    · have := miss_step (right_iter h k) hq
      exact ih (k + 1) (by show miss (cutF N (stepF (iterF N f k))) ≤ m; omega)
    · exact ⟨k, (relB_iff.1 hq).2⟩
theorem bt_iter {N : Nat} {f : Nat → Nat} (h : Rgt N f) (k : Nat) {i j : Nat} (hi : i < 48) :
    Bt (iterF N f (k + 1)) i j ↔ Bt (iterF N f k) i j ∨ ∃ m, m < 48 ∧ Bt (iterF N f k) i m ∧ Bt (iterF N f k) m j := by
  have hr : Rgt N (iterF N f k) := right_iter h k
  show Bt (cutF N (stepF (iterF N f k))) i j ↔ _
  have ht := bt_then (g := iterF N f k) (j := j) hr hi
  have e : Bt (stepF (iterF N f k)) i j ↔ Bt (iterF N f k) i j ∨ Bt (thenF (iterF N f k) (iterF N f k)) i j := bt_union _ (thenF _ _) i j
  rw [← ht, ← e]
  unfold Bt cutF
  by_cases hn : (i : Int) < N
  · rw [if_pos hn]
  · rw [if_neg hn]
    constructor
    · intro hc; simp at hc
    · intro hc
      exfalso
      rcases e.1 hc with hc | hc
      · have := hr.fst hi hc; omega
      · obtain ⟨m, _, hc, _⟩ := ht.1 hc
        have := hr.fst hi hc; omega
theorem plus_at {N : Nat} {f : Nat → Nat} (h : Rgt N f) : ∃ k, Fixed N f k ∧ ∀ i j, i < 48 → (Bt (plusF N f) i j ↔ Bt (iterF N f k) i j) := by
  obtain ⟨k, hk⟩ := fixed_exists h
  exact ⟨k, hk, fun i j hi => by unfold Bt; rw [plusF_at h hk i hi]⟩
theorem rgt_plus {N : Nat} {f : Nat → Nat} (h : Rgt N f) : Rgt N (plusF N f) := by
  obtain ⟨k, _, hp⟩ := plus_at h
  have hr : Rgt N (iterF N f k) := right_iter h k
  exact rgt_iff.2 ⟨h.le, fun i hi j hb => ⟨hr.fst hi ((hp i j hi).1 hb), hr.snd hi ((hp i j hi).1 hb)⟩⟩
theorem plus_64 {N : Nat} {f : Nat → Nat} (h : R64 f) : R64 (plusF N f) := by
  unfold plusF
  split
  · exact iterF_64 _ h _
  · exact h
theorem plus_base {N : Nat} {f : Nat → Nat} (h : Rgt N f) {i j : Nat} (hi : i < 48) (hb : Bt f i j) : Bt (plusF N f) i j := by
  obtain ⟨k, _, hp⟩ := plus_at h
  rw [hp i j hi]
  have key : ∀ k, Bt (iterF N f k) i j := by
    intro k
    induction k with
    | zero => exact hb
    | succ k ih => exact (bt_iter h k hi).2 (.inl ih)
  exact key k
theorem plus_trans {N : Nat} {f : Nat → Nat} (h : Rgt N f) {i m j : Nat} (hi : i < 48) (hm : m < 48) (h1 : Bt (plusF N f) i m) (h2 : Bt (plusF N f) m j) : Bt (plusF N f) i j := by
  obtain ⟨k, hk, hp⟩ := plus_at h
  rw [hp i j hi]
  have e := hk i hi
  have : Bt (iterF N f (k + 1)) i j := (bt_iter h k hi).2 (.inr ⟨m, hm, (hp i m hi).1 h1, (hp m j hm).1 h2⟩)
  unfold Bt at this ⊢
  rwa [e] at this
theorem plus_min {N : Nat} {f g : Nat → Nat} (h : Rgt N f) (hb : ∀ i j, i < 48 → Bt f i j → Bt g i j) (ht : ∀ i m j, i < 48 → m < 48 → Bt g i m → Bt g m j → Bt g i j) {i j : Nat} (hi : i < 48) (hp : Bt (plusF N f) i j) : Bt g i j := by
  obtain ⟨k, _, hpk⟩ := plus_at h
  have key : ∀ k i j, i < 48 → Bt (iterF N f k) i j → Bt g i j := by
    intro k
    induction k with
    | zero => exact hb
    | succ k ih =>
      intro i j hi hx
      rcases (bt_iter h k hi).1 hx with hx | ⟨m, hm, h1, h2⟩
      · exact ih i j hi hx
      · exact ht i m j hi hm (ih i m hi h1) (ih m j hm h2)
  exact key k i j hi ((hpk i j hi).1 hp)
theorem plus_plus {N : Nat} {f : Nat → Nat} (h : Rgt N f) : relB N N (plusF N (plusF N f)) (plusF N f) = true :=
  relB_bits fun _ _ hi => ⟨plus_min (rgt_plus h) (fun _ _ _ hb => hb) (fun _ _ _ hi hm => plus_trans h hi hm) hi, plus_base (rgt_plus h) hi⟩

theorem in_true {N : Nat} {f g : Nat → Nat} (hf : Rgt N f) (hg : Rgt N g) (h1 : R64 f) (h2 : R64 g) (h : ∀ i j, i < 48 → Bt f i j → Bt g i j) : inB N N f g = true := by
  have hz : ∀ i, i < 48 → cutF N (lessF f g) i = 0 := by
    intro i hi
    unfold cutF
    split
    · apply Nat.eq_of_testBit_eq
      intro j
      rw [Nat.zero_testBit]
      apply Decidable.byContradiction
      intro hc
      have := (bt_less h1 h2 i j).1 (by simpa using hc)
      exact this.2 (h i j hi this.1)
    · rfl
  have hN := hf.le
  have hr : rightB (N : Int) (cutF N (lessF f g)) = true := rgt_iff.2 ⟨hN, fun i hi j hb => by unfold Bt at hb; rw [hz i hi] at hb; simp at hb⟩
  have hk : fromK (cutF N (lessF f g)) N = 0 := by
    apply Nat.eq_of_testBit_eq
    intro j
    rw [Nat.zero_testBit, fromK_bit]
    by_cases hj : j < N
    · rw [hz j (by omega)]; simp
    · simp [hj]
  unfold inB
  rw [comb_ok hf hg, hr, Int.toNat_natCast, hk]
  rfl
theorem in_ok {N : Nat} {f g : Nat → Nat} (hf : Rgt N f) (hg : Rgt N g) (h1 : R64 f) (h2 : R64 g) (h : ∀ i j, i < 48 → Bt f i j → Bt g i j) (w : World) :
    Calls Tryd.prog 55 #[.agg (relC N f), .agg (relC N g)] w fun e w' => e = .returned (.bool true) ∧ Below w.heap.size w w' := by
  have := lawIn_any N N f g h1 h2 w
  rwa [in_true hf hg h1 h2 h] at this
end Go.Proofs.YtnfkedcbhjbhkaaDoor
