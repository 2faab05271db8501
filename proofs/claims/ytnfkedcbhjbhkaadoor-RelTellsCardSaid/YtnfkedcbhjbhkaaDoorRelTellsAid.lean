/- The program's answers and the document's, side by side. -/
import Derived.Test.YtnfkedcbhjbhkaaDoorRefRel5
import Derived.Test.YtnfkedcbhjbhkaaDoorRefTwo
import Derived.Test.YtnfkedcbhjbhkaaDoorRelBad
namespace Go.Proofs.YtnfkedcbhjbhkaaDoor
open Go.RowKit Go.Shelf

/-- One relation from the one, one from the other, and they are the same. -/
def SameR (f g : FuncId) (args : Array Value) : Prop := ∃ (N : Int) (F G : Nat → Nat), relB N N F G = true ∧
  (∀ w, Tab w → Calls Tryd.prog f args w fun e w' => e = .returned (.agg (relC N F)) ∧ Below w.heap.size w w') ∧ (∀ w, Calls Tryd.prog g args w fun e w' => e = .returned (.agg (relC N G)) ∧ Below w.heap.size w w')
def SameE (f g : FuncId) (args args' : Array Value) : Prop := ∃ (N : Int) (F G : Nat → Nat) (b : Bool), relB N N F G = true ∧
  (∀ w, Tab w → Calls Tryd.prog f args w fun e w' => e = .returned (.tuple #[.agg (relC N F), .int .i64 (opE b)]) ∧ Below w.heap.size w w') ∧ (∀ w, Calls Tryd.prog g args' w fun e w' => e = .returned (.tuple #[.agg (relC N G), .bool b]) ∧ Below w.heap.size w w')
theorem id_both (n : Int) (s : Nat) (hs : s < 2 ^ 64) : SameR 20 21 #[.int .i64 n, .int .u64 (s : Int)] := by
  by_cases h : 0 ≤ n ∧ n ≤ 48
  · obtain ⟨N, rfl⟩ : ∃ N : Nat, n = (N : Int) := ⟨n.toNat, by omega⟩
    refine ⟨N, cutF N (idF s), cutF N (idF s), relB_same (fun _ _ => rfl), fun w _ => ?_, fun w => refId_ok N s (by omega) hs w⟩
    have := id_any N s hs w
    rwa [show sizedB (N : Int) = true from sizedB_iff.2 ⟨by omega, by omega⟩] at this
  · refine ⟨0, zf, zf, relB_same (fun _ _ => rfl), fun w _ => ?_, fun w => refId_bad n s (by omega) w⟩
    have := id_any n s hs w
    rwa [show sizedB n = false by rw [Bool.eq_false_iff]; intro h2; exact h (sizedB_iff.1 h2)] at this
theorem cross_both (n : Int) (s t : Nat) (hs : s < 2 ^ 64) (ht : t < 2 ^ 64) : SameR 22 23 #[.int .i64 n, .int .u64 (s : Int), .int .u64 (t : Int)] := by
  by_cases h : 0 ≤ n ∧ n ≤ 48
  · obtain ⟨N, rfl⟩ : ∃ N : Nat, n = (N : Int) := ⟨n.toNat, by omega⟩
    have hN : N ≤ 48 := by omega
    refine ⟨N, prodF N s t, fillF (crossP s t) N N 0, relB_bits fun i j _ => ?_, fun w _ => cross_ok hN hs ht w, fun w => refCross_ok N s t hN hs ht w⟩
    rw [bt_prod hN, bt_fill]
    unfold crossP
    rw [Bool.and_eq_true]
  · refine ⟨0, zf, zf, relB_same (fun _ _ => rfl), fun w _ => ?_, fun w => refCross_bad n s t (by omega) w⟩
    have := cross_any n s t hs ht w
    rwa [show sizedB n = false by rw [Bool.eq_false_iff]; intro h2; exact h (sizedB_iff.1 h2)] at this
theorem back_both (n : Int) (f : Nat → Nat) (hf : R64 f) : SameR 34 35 #[.agg (relC n f)] := by
  cases hb : rightB n f
  · exact ⟨0, zf, zf, relB_same (fun _ _ => rfl), fun w hT => bad_back hb hf w hT, fun w => refBack_bad n f hf hb w⟩
  · obtain ⟨⟨n0, n1⟩, -⟩ := rightB_iff.1 hb
    obtain ⟨N, rfl⟩ : ∃ N : Nat, n = (N : Int) := ⟨n.toNat, by omega⟩
    have hr : Rgt N f := hb
    refine ⟨N, backF N f, fillF (backP f) N N 0, relB_bits fun j i hj => ?_, fun w hT => turn_ok hf hr w hT, fun w => refBack_ok N f hf hr w⟩
    rw [bt_back hr hj, bt_fill]
    unfold backP
    constructor
    · rintro ⟨hi, hb⟩
      exact ⟨hr.snd hi hb, hr.fst hi hb, hb⟩
    · rintro ⟨_, hi, hb⟩
      exact ⟨by have := hr.le; omega, hb⟩
theorem plus_both (n : Int) (f : Nat → Nat) (hf : R64 f) : SameR 36 37 #[.agg (relC n f)] := by
  cases hb : rightB n f
  · exact ⟨0, zf, zf, relB_same (fun _ _ => rfl), fun w hT => bad_plus hb hf w hT, fun w => refPlus_bad n f hf hb w⟩
  · obtain ⟨⟨n0, n1⟩, -⟩ := rightB_iff.1 hb
    obtain ⟨N, rfl⟩ : ∃ N : Nat, n = (N : Int) := ⟨n.toNat, by omega⟩
    have hr : Rgt N f := hb
    exact ⟨N, plusF N f, warK f N N, war_plus hr, fun w hT => plus_ok hf hr w hT, fun w => refPlus_ok N f hf hr w⟩
theorem star_both (n : Int) (f : Nat → Nat) (hf : R64 f) : SameR 38 39 #[.agg (relC n f)] := by
  cases hb : rightB n f
  · exact ⟨0, zf, zf, relB_same (fun _ _ => rfl), fun w hT => bad_star hb hf w hT, fun w => refStar_bad n f hf hb w⟩
  · obtain ⟨⟨n0, n1⟩, -⟩ := rightB_iff.1 hb
    obtain ⟨N, rfl⟩ : ∃ N : Nat, n = (N : Int) := ⟨n.toNat, by omega⟩
    have hr : Rgt N f := hb
    refine ⟨N, starR N f, starK (warK f N N) N, relB_same fun i hi => ?_, fun w hT => ?_, fun w => refStar_ok N f hf hr w⟩
    · have hw := (relB_iff.1 (war_plus hr)).2 i hi
      have hz := (rgt_plus hr).zero hi
      unfold starR starK unionF
      rw [hb, if_pos rfl]
      unfold opN cutF starF pw
      rw [if_pos rfl]
      by_cases h : (i : Int) < N
      · rw [if_pos h, if_pos h, hw]
      · rw [if_neg h, if_neg h, ← hw, hz (by omega)]; rfl
    · have := star_any N f w hf hT
      rwa [hb] at this
theorem of_both (n : Int) (ps : List (Int × Int)) : ∃ (N : Int) (F : Nat → Nat) (b : Bool),
    (∀ w v, PairSl w.heap.size w v ps → Calls Tryd.prog 18 #[.int .i64 n, v] w fun e w' => e = .returned (.tuple #[.agg (relC N F), .int .i64 (opE b)]) ∧ Below w.heap.size w w') ∧
    (∀ w v, PairSl w.heap.size w v ps → Calls Tryd.prog 19 #[.int .i64 n, v] w fun e w' => e = .returned (.tuple #[.agg (relC N F), .bool b]) ∧ Below w.heap.size w w') :=
  ⟨opN (ofB n ps) n, if ofB n ps then ofL ps else zf, ofB n ps, fun w v h => relOf_any n v ps w h, fun w v h => refOf_any n v ps w h⟩
theorem from_both (n : Int) (f : Nat → Nat) (hf : R64 f) : ∃ s : Nat,
    (∀ w, Calls Tryd.prog 40 #[.agg (relC n f)] w fun e w' => e = .returned (.int .u64 (s : Int)) ∧ Below w.heap.size w w') ∧
    (∀ w, Calls Tryd.prog 41 #[.agg (relC n f)] w fun e w' => e = .returned (.int .u64 (s : Int)) ∧ Below w.heap.size w w') := by
  cases hb : rightB n f
  · exact ⟨0, fun w => bad_from hb hf w, fun w => refFrom_bad n f hf hb w⟩
  · obtain ⟨⟨n0, n1⟩, -⟩ := rightB_iff.1 hb
    obtain ⟨N, rfl⟩ : ∃ N : Nat, n = (N : Int) := ⟨n.toNat, by omega⟩
    have hr : Rgt N f := hb
    refine ⟨fromK f N, fun w => ?_, fun w => refFrom_ok N f hf hr w⟩
    have := from_any N f w hf
    rwa [hb, if_pos rfl, Int.toNat_natCast] at this
theorem into_both (n : Int) (f : Nat → Nat) (hf : R64 f) : ∃ s : Nat,
    (∀ w, Tab w → Calls Tryd.prog 42 #[.agg (relC n f)] w fun e w' => e = .returned (.int .u64 (s : Int)) ∧ Below w.heap.size w w') ∧
    (∀ w, Calls Tryd.prog 43 #[.agg (relC n f)] w fun e w' => e = .returned (.int .u64 (s : Int)) ∧ Below w.heap.size w w') := by
  cases hb : rightB n f
  · exact ⟨0, fun w hT => bad_into hb hf w hT, fun w => refInto_bad n f hf hb w⟩
  · obtain ⟨⟨n0, n1⟩, -⟩ := rightB_iff.1 hb
    obtain ⟨N, rfl⟩ : ∃ N : Nat, n = (N : Int) := ⟨n.toNat, by omega⟩
    have hr : Rgt N f := hb
    refine ⟨imgF f (allOf (N : Int)).toNat, fun w hT => ?_, fun w => refInto_ok N f hf hr w⟩
    have := into_any N f w hf hT
    rwa [hb, if_pos rfl] at this
theorem pairsl_none (W : World) : PairSl W.heap.size W (.slice none 0 0) [] := ⟨by simp, none, 0, rfl, fun h => absurd h (by simp)⟩
theorem pairs_both (n : Int) (f : Nat → Nat) (hf : R64 f) : ∃ ps : List (Int × Int),
    (∀ w, Tab w → Calls Tryd.prog 32 #[.agg (relC n f)] w fun e w' => ∃ v, e = .returned v ∧ PairSl w'.heap.size w' v ps ∧ Below w.heap.size w w') ∧
    (∀ w, Calls Tryd.prog 33 #[.agg (relC n f)] w fun e w' => ∃ v, e = .returned v ∧ PairSl w'.heap.size w' v ps ∧ Below w.heap.size w w') := by
  cases hb : rightB n f
  · refine ⟨[], fun w hT => (bad_nil hb hf w).mono ?_, fun w => (refPairs_bad n f hf hb w).mono ?_⟩
    · rintro e w' ⟨rfl, h⟩; exact ⟨_, rfl, pairsl_none w', h⟩
    · rintro e w' ⟨rfl, h⟩; exact ⟨_, rfl, pairsl_none w', h⟩
  · obtain ⟨⟨n0, n1⟩, -⟩ := rightB_iff.1 hb
    obtain ⟨N, rfl⟩ : ∃ N : Nat, n = (N : Int) := ⟨n.toNat, by omega⟩
    have hr : Rgt N f := hb
    have hle := pairsK_le f N (by omega)
    refine ⟨(pairsK f N).map itP, fun w hT => (relPairs_ok hf hr w hT).mono ?_, fun w => (refPairs_ok N f hf hr w).mono ?_⟩
    · rintro e w' ⟨v, rfl, h, h2⟩; exact ⟨v, rfl, pairSl_of_row h (by unfold maxLen; omega), h2⟩
    · rintro e w' ⟨v, rfl, h, h2⟩; exact ⟨v, rfl, pairSl_of_row h (by unfold maxLen; omega), h2⟩
/-- Two of them, as the one says and as the other. -/
theorem two_both (n m : Int) (f g : Nat → Nat) (hf : R64 f) (hg : R64 g) :
    SameE 24 28 #[.agg (relC n f), .agg (relC m g)] #[.int .i64 0, .agg (relC n f), .agg (relC m g)] ∧
    SameE 25 28 #[.agg (relC n f), .agg (relC m g)] #[.int .i64 1, .agg (relC n f), .agg (relC m g)] ∧
    SameE 26 28 #[.agg (relC n f), .agg (relC m g)] #[.int .i64 2, .agg (relC n f), .agg (relC m g)] ∧
    SameE 27 28 #[.agg (relC n f), .agg (relC m g)] #[.int .i64 3, .agg (relC n f), .agg (relC m g)] := by
  cases hb : combB n m f g
  · refine ⟨⟨0, zf, zf, false, relB_same (fun _ _ => rfl), fun w _ => ?_, fun w => refTwo_bad 0 n m f g hf hg hb w⟩, ⟨0, zf, zf, false, relB_same (fun _ _ => rfl), fun w _ => ?_, fun w => refTwo_bad 1 n m f g hf hg hb w⟩,
      ⟨0, zf, zf, false, relB_same (fun _ _ => rfl), fun w _ => ?_, fun w => refTwo_bad 2 n m f g hf hg hb w⟩, ⟨0, zf, zf, false, relB_same (fun _ _ => rfl), fun w hT => ?_, fun w => refTwo_bad 3 n m f g hf hg hb w⟩⟩
    · have := union_any n m f g hf hg w
      unfold CombPost at this
      rwa [hb] at this
    · have := both_any n m f g hf hg w
      unfold CombPost at this
      rwa [hb] at this
    · have := less_any n m f g hf hg w
      unfold CombPost at this
      rwa [hb] at this
    · have := thens_any n m f g hf hg w hT
      unfold CombPost at this
      rwa [hb] at this
  · obtain ⟨rfl, h1, h2⟩ := combB_iff.1 hb
    obtain ⟨⟨n0, n1⟩, -⟩ := rightB_iff.1 h1
    obtain ⟨N, rfl⟩ : ∃ N : Nat, n = (N : Int) := ⟨n.toNat, by omega⟩
    have hr : Rgt N f := h1
    have hs : Rgt N g := h2
    refine ⟨⟨N, unionF f g, _, true, relB_bits fun i j hi => ?_, fun w _ => union_ok hf hg hr hs w, fun w => refTwo_ok0 N f g hf hg hr hs w⟩, ⟨N, bothF f g, _, true, relB_bits fun i j hi => ?_, fun w _ => both_ok hf hg hr hs w, fun w => refTwo_ok1 N f g hf hg hr hs w⟩,
      ⟨N, lessF f g, _, true, relB_bits fun i j hi => ?_, fun w _ => less_ok hf hg hr hs w, fun w => refTwo_ok2 N f g hf hg hr hs w⟩, ⟨N, thenF f g, _, true, relB_bits fun i j hi => ?_, fun w hT => then_ok hf hg hr hs w hT, fun w => refTwo_ok3 N f g hf hg hr hs w⟩⟩
    · rw [bt_union, bt_fill]
      show _ ↔ _ ∧ _ ∧ ((f i).testBit j || (g i).testBit j) = true
      rw [Bool.or_eq_true]
      constructor
      · rintro (h | h)
        · exact ⟨hr.fst hi h, hr.snd hi h, .inl h⟩
        · exact ⟨hs.fst hi h, hs.snd hi h, .inr h⟩
      · exact fun h => h.2.2
    · rw [bt_both, bt_fill]
      show _ ↔ _ ∧ _ ∧ ((f i).testBit j && (g i).testBit j) = true
      rw [Bool.and_eq_true]
      exact ⟨fun h => ⟨hr.fst hi h.1, hr.snd hi h.1, h⟩, fun h => h.2.2⟩
    · rw [bt_less hf hg, bt_fill]
      show _ ↔ _ ∧ _ ∧ ((f i).testBit j && !(g i).testBit j) = true
      rw [Bool.and_eq_true]
      exact ⟨fun h => ⟨hr.fst hi h.1, hr.snd hi h.1, h.1, by simpa [Bt] using h.2⟩, fun h => ⟨h.2.2.1, by simpa [Bt] using h.2.2.2⟩⟩
    · rw [bt_then hr hi, bt_fill]
      show _ ↔ _ ∧ _ ∧ thruK f g i j N = true
      unfold thruK
      rw [List.any_eq_true]
      constructor
      · rintro ⟨k, hk, h1, h2⟩
        exact ⟨hr.fst hi h1, hs.snd hk h2, k, List.mem_range.2 (hr.snd hi h1), by rw [Bool.and_eq_true]; exact ⟨h1, h2⟩⟩
      · rintro ⟨_, _, k, hk, h⟩
        rw [Bool.and_eq_true] at h
        exact ⟨k, by have := List.mem_range.1 hk; have := hr.le; omega, h.1, h.2⟩
end Go.Proofs.YtnfkedcbhjbhkaaDoor
