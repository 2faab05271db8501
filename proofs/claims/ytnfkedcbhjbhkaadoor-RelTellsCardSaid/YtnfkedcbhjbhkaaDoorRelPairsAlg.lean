/- Lists of pairs, counted and turned: what the law of pairs says. -/
import Derived.Test.YtnfkedcbhjbhkaaDoorRelFine
import Derived.Test.YtnfkedcbhjbhkaaDoorRelAid2
namespace Go.Proofs.YtnfkedcbhjbhkaaDoor
open Go.RowKit Go.Shelf

theorem count_or (l : List It) (p q : It → Bool) : (l.filter fun i => p i || q i).length + (l.filter fun i => p i && q i).length = (l.filter p).length + (l.filter q).length := by
  induction l with
  | nil => rfl
  | cons i l ih => simp only [List.filter_cons]; cases p i <;> cases q i <;> simp <;> omega
theorem count_diff (l : List It) (p q : It → Bool) : (l.filter fun i => p i && !q i).length + (l.filter fun i => p i && q i).length = (l.filter p).length := by
  induction l with
  | nil => rfl
  | cons i l ih => simp only [List.filter_cons]; cases p i <;> cases q i <;> simp <;> omega
theorem rowP_cnt (f : Nat → Nat) (a : It) : (rowP f a).length = (allIt.filter fun b => (f a.1).testBit b.1).length := by
  unfold rowP itS
  rw [List.length_map]
theorem pairs_or (f g : Nat → Nat) : ∀ k, k ≤ 48 → (pairsK (unionF f g) k).length + (pairsK (bothF f g) k).length = (pairsK f k).length + (pairsK g k).length
  | 0, _ => by simp [pairsK_zero]
  | k + 1, h => by
    have ih := pairs_or f g k (by omega)
    have hc := count_or allIt (fun b => (f k).testBit b.1) (fun b => (g k).testBit b.1)
    rw [pairsK_succ _ k (by omega), pairsK_succ _ k (by omega), pairsK_succ _ k (by omega), pairsK_succ _ k (by omega)]
    simp only [List.length_append, rowP_cnt, unionF, bothF, Nat.testBit_or, Nat.testBit_and]
    omega
theorem pairs_less (f g : Nat → Nat) (hf : R64 f) (hg : R64 g) : ∀ k, k ≤ 48 → (pairsK (lessF f g) k).length + (pairsK (bothF f g) k).length = (pairsK f k).length
  | 0, _ => by simp [pairsK_zero]
  | k + 1, h => by
    have ih := pairs_less f g hf hg k (by omega)
    have hc := count_diff allIt (fun b => (f k).testBit b.1) (fun b => (g k).testBit b.1)
    have hl : ∀ b : It, (lessF f g k).testBit b.1 = ((f k).testBit b.1 && !(g k).testBit b.1) := by
      intro b
      have := bt_less hf hg k b.1
      unfold Bt at this
      rw [Bool.eq_iff_iff, this]
      simp
    rw [pairsK_succ _ k (by omega), pairsK_succ _ k (by omega), pairsK_succ _ k (by omega)]
    simp only [List.length_append, rowP_cnt, bothF, Nat.testBit_and, hl]
    omega

theorem bt_ofL (l : List (It × It)) (i j : Nat) : Bt (ofL (l.map itP)) i j ↔ ∃ x ∈ l, x.1.1 = i ∧ x.2.1 = j := by
  unfold ofL
  rw [List.foldl_map]
  have key : ∀ (l : List (It × It)) (g : Nat → Nat), (Bt (l.foldl (fun g x => upd g (itP x).1.toNat (g (itP x).1.toNat ||| 2 ^ (itP x).2.toNat)) g) i j ↔ Bt g i j ∨ ∃ x ∈ l, x.1.1 = i ∧ x.2.1 = j) := by
    intro l
    induction l with
    | nil => intro g; simp
    | cons a l ih =>
      intro g
      rw [List.foldl_cons, ih]
      have hu : Bt (upd g (itP a).1.toNat (g (itP a).1.toNat ||| 2 ^ (itP a).2.toNat)) i j ↔ Bt g i j ∨ (a.1.1 = i ∧ a.2.1 = j) := by
        unfold Bt upd itP
        rw [Int.toNat_natCast, Int.toNat_natCast]
        by_cases hi : i = a.1.1
        · subst hi
          rw [if_pos rfl, Nat.testBit_or, Nat.testBit_two_pow]
          simp
        · rw [if_neg hi]
          constructor
          · exact .inl
          · rintro (h | ⟨h, _⟩)
            · exact h
            · exact absurd h.symm hi
      rw [hu]
      constructor
      · rintro ((h | h) | ⟨x, hx, h⟩)
        · exact .inl h
        · exact .inr ⟨a, List.mem_cons_self, h⟩
        · exact .inr ⟨x, List.mem_cons_of_mem _ hx, h⟩
      · rintro (h | ⟨x, hx, h⟩)
        · exact .inl (.inl h)
        · rcases List.mem_cons.1 hx with rfl | hx
          · exact .inl (.inr h)
          · exact .inr ⟨x, hx, h⟩
  have := key l zf
  simpa [Bt, zf] using this

/-- A list of the pairs of a relation, in any order. -/
def SameP (A : Nat → Nat) (N : Nat) (l : List (It × It)) : Prop := ∀ x, x ∈ l ↔ x ∈ pairsK A N
theorem SameP.good {N : Nat} {A : Nat → Nat} {l : List (It × It)} (hA : Rgt N A) (h : SameP A N l) : ofB N (l.map itP) = true := by
  unfold ofB
  rw [Bool.and_eq_true]
  refine ⟨sizedB_iff.2 ⟨by omega, by have := hA.le; omega⟩, ?_⟩
  rw [List.all_eq_true]
  intro p hp
  obtain ⟨x, hx, rfl⟩ := List.mem_map.1 hp
  have h1 := mem_pairsK.1 ((h x).1 hx)
  have h2 := hA.snd x.1.2 h1.2
  unfold goodP itP
  rw [Bool.and_eq_true]
  exact ⟨itemB_iff.2 ⟨by simp, by simpa using h1.1⟩, itemB_iff.2 ⟨by simp, by simpa using h2⟩⟩
theorem SameP.twice {N : Nat} {A : Nat → Nat} {l : List (It × It)} (h : SameP A N l) : SameP A N (l ++ l) := fun x => by
  rw [List.mem_append, or_self]; exact h x
theorem SameP.of {N : Nat} {A : Nat → Nat} {l : List (It × It)} (hA : Rgt N A) (h : SameP A N l) : relB N N (ofL (l.map itP)) A = true :=
  relB_bits fun i j hi => by
    rw [bt_ofL]
    constructor
    · rintro ⟨x, hx, rfl, rfl⟩
      exact (mem_pairsK.1 ((h x).1 hx)).2
    · intro hb
      have h2 := hA.snd48 hi hb
      exact ⟨(⟨i, hi⟩, ⟨j, h2⟩), (h _).2 (mem_pairsK.2 ⟨hA.fst hi hb, hb⟩), rfl, rfl⟩
theorem sameP_turn (A : Nat → Nat) (N k : Nat) : SameP A N ((pairsK A N).drop k ++ (pairsK A N).take k) := fun x => by
  rw [List.mem_append, or_comm, ← List.mem_append, List.take_append_drop]
/-- The items that occur first, second. -/
def fstS (l : List (It × It)) : Nat := l.foldl (fun s x => s ||| 2 ^ x.1.1) 0
def sndS (l : List (It × It)) : Nat := l.foldl (fun s x => s ||| 2 ^ x.2.1) 0
theorem fold_bit (g : It × It → Nat) (l : List (It × It)) (j : Nat) : (l.foldl (fun s x => s ||| 2 ^ g x) 0).testBit j = true ↔ ∃ x ∈ l, g x = j := by
  have key : ∀ (l : List (It × It)) (s : Nat), ((l.foldl (fun s x => s ||| 2 ^ g x) s).testBit j = true ↔ s.testBit j = true ∨ ∃ x ∈ l, g x = j) := by
    intro l
    induction l with
    | nil => intro s; simp
    | cons a l ih =>
      intro s
      rw [List.foldl_cons, ih, Nat.testBit_or, Nat.testBit_two_pow]
      constructor
      · rintro (h | ⟨x, hx, h⟩)
        · rw [Bool.or_eq_true, decide_eq_true_iff] at h
          rcases h with h | h
          · exact .inl h
          · exact .inr ⟨a, List.mem_cons_self, h⟩
        · exact .inr ⟨x, List.mem_cons_of_mem _ hx, h⟩
      · rintro (h | ⟨x, hx, h⟩)
        · exact .inl (by rw [h]; rfl)
        · rcases List.mem_cons.1 hx with rfl | hx
          · exact .inl (by rw [Bool.or_eq_true, decide_eq_true_iff]; exact .inr h)
          · exact .inr ⟨x, hx, h⟩
  simpa using key l 0
theorem fstS_snoc (l : List (It × It)) (x : It × It) : fstS (l ++ [x]) = fstS l ||| 2 ^ x.1.1 := by simp [fstS, List.foldl_append]
theorem sndS_snoc (l : List (It × It)) (x : It × It) : sndS (l ++ [x]) = sndS l ||| 2 ^ x.2.1 := by simp [sndS, List.foldl_append]
theorem fstS_lt (l : List (It × It)) : fstS l < 2 ^ 48 := lt_of_bits fun j hj => by
  obtain ⟨x, _, rfl⟩ := (fold_bit (fun x => x.1.1) l j).1 hj
  exact x.1.2
theorem sndS_lt (l : List (It × It)) : sndS l < 2 ^ 48 := lt_of_bits fun j hj => by
  obtain ⟨x, _, rfl⟩ := (fold_bit (fun x => x.2.1) l j).1 hj
  exact x.2.2
theorem SameP.from {N : Nat} {A : Nat → Nat} {l : List (It × It)} (hA : Rgt N A) (h : SameP A N l) : fromK A N = fstS l := by
  apply Nat.eq_of_testBit_eq
  intro j
  rw [fromK_bit, Bool.eq_iff_iff]
  unfold fstS
  rw [fold_bit (fun x => x.1.1), Bool.and_eq_true, decide_eq_true_iff, decide_eq_true_iff]
  constructor
  · rintro ⟨hj, hne⟩
    have hj48 : j < 48 := by have := hA.le; omega
    have hex : ∃ k, Bt A j k := by
      refine Classical.byContradiction fun hn => hne (Nat.eq_of_testBit_eq fun k => ?_)
      rw [Nat.zero_testBit, Bool.eq_false_iff]
      exact fun hb => hn ⟨k, hb⟩
    obtain ⟨k, hk⟩ := hex
    exact ⟨(⟨j, hj48⟩, ⟨k, hA.snd48 hj48 hk⟩), (h _).2 (mem_pairsK.2 ⟨hj, hk⟩), rfl⟩
  · rintro ⟨x, hx, rfl⟩
    have hm := mem_pairsK.1 ((h x).1 hx)
    refine ⟨hm.1, fun h0 => ?_⟩
    have hb := hm.2
    unfold Bt at hb
    rw [h0, Nat.zero_testBit] at hb
    cases hb
theorem SameP.into {N : Nat} {A : Nat → Nat} {l : List (It × It)} (hA : Rgt N A) (h : SameP A N l) : imgF A (allOf (N : Int)).toNat = sndS l := by
  apply Nat.eq_of_testBit_eq
  intro j
  rw [Bool.eq_iff_iff, bt_img]
  unfold sndS
  rw [fold_bit (fun x => x.2.1)]
  constructor
  · rintro ⟨k, _, hk, hb⟩
    rw [allOf_bits N k hA.le, decide_eq_true_iff] at hk
    have hk48 : k < 48 := by have := hA.le; omega
    exact ⟨(⟨k, hk48⟩, ⟨j, hA.snd48 hk48 hb⟩), (h _).2 (mem_pairsK.2 ⟨hk, hb⟩), rfl⟩
  · rintro ⟨x, hx, rfl⟩
    have hm := mem_pairsK.1 ((h x).1 hx)
    exact ⟨x.1.1, by have := x.1.2; omega, by rw [allOf_bits N _ hA.le, decide_eq_true_iff]; exact hm.1, hm.2⟩
theorem SameP.has {N : Nat} {A : Nat → Nat} {l : List (It × It)} (hA : Rgt N A) (h : SameP A N l) (x : It × It) (hx : x ∈ l) : hasB N A (x.1.1 : Int) (x.2.1 : Int) = true := by
  have hm := mem_pairsK.1 ((h x).1 hx)
  have h2 := hA.snd x.1.2 hm.2
  unfold hasB
  rw [show rightB (N : Int) A = true from hA, itemB_iff.2 ⟨by omega, by have := hm.1; omega⟩, itemB_iff.2 ⟨by omega, by omega⟩, Int.toNat_natCast, Int.toNat_natCast]
  simpa using hm.2
end Go.Proofs.YtnfkedcbhjbhkaaDoor
