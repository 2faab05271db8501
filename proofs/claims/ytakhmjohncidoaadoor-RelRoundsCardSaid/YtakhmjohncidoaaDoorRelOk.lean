/- The contracts of the operations on right relations of as many items. -/
import Derived.Test.YtakhmjohncidoaaDoorRelAlg
import Derived.Test.YtakhmjohncidoaaDoorRelAwake2
namespace Go.Proofs.YtakhmjohncidoaaDoor
open Go.RowKit Go.Shelf

attribute [local go_sem] Oper.semAt_some

theorem union_ok {N : Nat} {f g : Nat → Nat} (h1 : R64 f) (h2 : R64 g) (hf : Rgt N f) (hg : Rgt N g) (w : World) :
    Calls Tryd.prog 14 #[.agg (relC N f), .agg (relC N g)] w fun e w' => e = .returned (.tuple #[.agg (relC N (unionF f g)), .int .i64 0]) ∧ Below w.heap.size w w' := by
  have := union_any N N f g h1 h2 w
  unfold CombPost at this
  rw [comb_ok hf hg] at this
  change Calls _ _ _ _ fun e w' => e = .returned (.tuple #[.agg (relC N (cutF N (unionF f g))), .int .i64 0]) ∧ _ at this
  rwa [(rgt_union hf hg).cut] at this
theorem both_ok {N : Nat} {f g : Nat → Nat} (h1 : R64 f) (h2 : R64 g) (hf : Rgt N f) (hg : Rgt N g) (w : World) :
    Calls Tryd.prog 15 #[.agg (relC N f), .agg (relC N g)] w fun e w' => e = .returned (.tuple #[.agg (relC N (bothF f g)), .int .i64 0]) ∧ Below w.heap.size w w' := by
  have := both_any N N f g h1 h2 w
  unfold CombPost at this
  rw [comb_ok hf hg] at this
  change Calls _ _ _ _ fun e w' => e = .returned (.tuple #[.agg (relC N (cutF N (bothF f g))), .int .i64 0]) ∧ _ at this
  rwa [(rgt_both hf).cut] at this
theorem less_ok {N : Nat} {f g : Nat → Nat} (h1 : R64 f) (h2 : R64 g) (hf : Rgt N f) (hg : Rgt N g) (w : World) :
    Calls Tryd.prog 16 #[.agg (relC N f), .agg (relC N g)] w fun e w' => e = .returned (.tuple #[.agg (relC N (lessF f g)), .int .i64 0]) ∧ Below w.heap.size w w' := by
  have := less_any N N f g h1 h2 w
  unfold CombPost at this
  rw [comb_ok hf hg] at this
  change Calls _ _ _ _ fun e w' => e = .returned (.tuple #[.agg (relC N (cutF N (lessF f g))), .int .i64 0]) ∧ _ at this
  rwa [(rgt_less hf).cut] at this
theorem then_ok {N : Nat} {f g : Nat → Nat} (h1 : R64 f) (h2 : R64 g) (hf : Rgt N f) (hg : Rgt N g) (w : World) (hT : Tab w) :
    Calls Tryd.prog 17 #[.agg (relC N f), .agg (relC N g)] w fun e w' => e = .returned (.tuple #[.agg (relC N (thenF f g)), .int .i64 0]) ∧ Below w.heap.size w w' := by
  have := thens_any N N f g h1 h2 w hT
  unfold CombPost at this
  rw [comb_ok hf hg] at this
  change Calls _ _ _ _ fun e w' => e = .returned (.tuple #[.agg (relC N (cutF N (thenF f g))), .int .i64 0]) ∧ _ at this
  rwa [(rgt_then hf hg).cut] at this
theorem turn_ok {N : Nat} {f : Nat → Nat} (h1 : R64 f) (hf : Rgt N f) (w : World) (hT : Tab w) :
    Calls Tryd.prog 24 #[.agg (relC N f)] w fun e w' => e = .returned (.agg (relC N (backF N f))) ∧ Below w.heap.size w w' := by
  have := back_ok N f w h1 hT hf
  rwa [Int.toNat_natCast] at this
theorem plus_ok {N : Nat} {f : Nat → Nat} (h1 : R64 f) (hf : Rgt N f) (w : World) (hT : Tab w) :
    Calls Tryd.prog 26 #[.agg (relC N f)] w fun e w' => e = .returned (.agg (relC N (plusF N f))) ∧ Below w.heap.size w w' := by
  have := plus_any N f w h1 hT
  rw [show rightB N f = true from hf] at this
  exact this
theorem irr_ok {N : Nat} {f : Nat → Nat} (h1 : R64 f) (hf : Rgt N f) (w : World) :
    Calls Tryd.prog 40 #[.agg (relC N f)] w fun e w' => e = .returned (.bool (irrK f N)) ∧ Below w.heap.size w w' := by
  have := irr_any N f w h1
  rw [show rightB N f = true from hf, Bool.true_and, Int.toNat_natCast] at this
  exact this
theorem back_64 {N : Nat} {f : Nat → Nat} : R64 (backF N f) := backL_64 _
theorem union_64 {f g : Nat → Nat} (hf : R64 f) (hg : R64 g) : R64 (unionF f g) := fun i => Nat.or_lt_two_pow (hf i) (hg i)
theorem both_64 {f g : Nat → Nat} (hf : R64 f) : R64 (bothF f g) := fun i => Nat.lt_of_le_of_lt Nat.and_le_left (hf i)
theorem less_64 {f g : Nat → Nat} (hf : R64 f) : R64 (lessF f g) := fun i => Nat.lt_of_le_of_lt Nat.and_le_left (hf i)
theorem irrK_iff {f : Nat → Nat} {N : Nat} : irrK f N = true ↔ ∀ i, i < N → ¬ Bt f i i := by simp [irrK, Bt]

/-- The product of two sets. -/
def prodF (N s t : Nat) : Nat → Nat := cutF N (crossF s t N)
theorem allOf_bits (N j : Nat) (h : N ≤ 48) : (allOf (N : Int)).toNat.testBit j = decide (j < N) := by
  have e : (allOf (N : Int)).toNat = 2 ^ N - 1 := by
    unfold allOf
    rcases Nat.eq_zero_or_pos N with rfl | h0
    · rfl
    · rw [if_neg (by omega), if_neg (by omega), Int.toNat_natCast, Int.toNat_natCast]
  rw [e, Nat.testBit_two_pow_sub_one]
theorem bt_prod {N s t : Nat} (h : N ≤ 48) (i j : Nat) : Bt (prodF N s t) i j ↔ i < N ∧ j < N ∧ s.testBit i = true ∧ t.testBit j = true := by
  unfold Bt prodF cutF crossF
  by_cases hi : (i : Int) < N
  · rw [if_pos hi]
    by_cases hs : s.testBit i = true
    · rw [if_pos hs, Nat.testBit_and, allOf_bits N j h]
      have hi' : i < N := by omega
      simp [hs, hi', and_comm]
    · rw [if_neg hs]
      simp [hs]
  · rw [if_neg hi]
    simp
    intro h0
    exact absurd (by omega) hi
theorem rgt_prod {N s t : Nat} (h : N ≤ 48) : Rgt N (prodF N s t) := rgt_iff.2 ⟨h, fun i _ j hb => by have := (bt_prod h i j).1 hb; exact ⟨this.1, this.2.1⟩⟩
theorem prod_64 {N s t : Nat} (ht : t < 2 ^ 64) : R64 (prodF N s t) := cutF_64 _ (crossF_64 _ _ _ ht)
theorem cross_ok {N s t : Nat} (h : N ≤ 48) (hs : s < 2 ^ 64) (ht : t < 2 ^ 64) (w : World) :
    Calls Tryd.prog 12 #[.int .i64 N, .int .u64 (s : Int), .int .u64 (t : Int)] w fun e w' => e = .returned (.agg (relC N (prodF N s t))) ∧ Below w.heap.size w w' := by
  have := cross_any N s t hs ht w
  rw [show sizedB (N : Int) = true from sizedB_iff.2 ⟨by omega, by omega⟩] at this
  exact this.mono fun e w' he => ⟨he.1, he.2⟩
/-- A relation's load that reads alike in every world of the class. -/
theorem quiet_loadRel {o : Oper} {a : Act} {C : World → Prop} {K : Act → Prop} (x : Operand) (ho : o.op = .load 26 x) (b : Nat) (hx : a.eval x = .pointer (some ⟨b, 0, none⟩)) (n : Int) (f : Nat → Nat)
    (hc : ∀ W, C W → RelAt W b n f) (hk : K (a.put o.dst (.agg (relC n f)))) : o.quiet Tryd.prog a C K := by
  refine ⟨.agg (relC n f), fun W hW => ?_, hk⟩
  have hl : (Instr.loadAt 26 (.pointer (some ⟨b, 0, none⟩))).run Tryd.prog W = .ok (.agg (relC n f)) W := (hc W hW).ld
  have hr : (execOp a.eval o).run Tryd.prog W = .ok (.value (.agg (relC n f))) W := by
    unfold execOp
    simp only [ho, hx, Sem.run_bind, Sem.run_pure, Result.andThen_ok, hl]
  unfold Oper.quietAt
  rw [hr]
  exact ⟨rfl, rfl⟩
end Go.Proofs.YtakhmjohncidoaaDoor
