/- RelTellsAid, RefRel6, RefSteps in one text, for the claim. -/
import Derived.Test.YtakhmjohncidoaaDoorRr3
import Derived.Deep.DeepCutAuto

section
/- The program's answers and the document's, side by side. -/
namespace Go.Proofs.YtakhmjohncidoaaDoor
open Go.RowKit Go.Shelf

/-- One relation from the one, one from the other, and they are the same. -/
def SameR (f g : FuncId) (args : Array Value) : Prop := ∃ (N : Int) (F G : Nat → Nat), relB N N F G = true ∧
  (∀ w, Tab w → Calls Tryd.prog f args w fun e w' => e = .returned (.agg (relC N F)) ∧ Below w.heap.size w w') ∧ (∀ w, Calls Tryd.prog g args w fun e w' => e = .returned (.agg (relC N G)) ∧ Below w.heap.size w w')
def SameE (f g : FuncId) (args args' : Array Value) : Prop := ∃ (N : Int) (F G : Nat → Nat) (b : Bool), relB N N F G = true ∧
  (∀ w, Tab w → Calls Tryd.prog f args w fun e w' => e = .returned (.tuple #[.agg (relC N F), .int .i64 (opE b)]) ∧ Below w.heap.size w w') ∧ (∀ w, Calls Tryd.prog g args' w fun e w' => e = .returned (.tuple #[.agg (relC N G), .bool b]) ∧ Below w.heap.size w w')
theorem id_both (n : Int) (s : Nat) (hs : s < 2 ^ 64) : SameR 10 11 #[.int .i64 n, .int .u64 (s : Int)] := by
  by_cases h : 0 ≤ n ∧ n ≤ 48
  · obtain ⟨N, rfl⟩ : ∃ N : Nat, n = (N : Int) := ⟨n.toNat, by omega⟩
    refine ⟨N, cutF N (idF s), cutF N (idF s), relB_same (fun _ _ => rfl), fun w _ => ?_, fun w => refId_ok N s (by omega) hs w⟩
    have := id_any N s hs w
    rwa [show sizedB (N : Int) = true from sizedB_iff.2 ⟨by omega, by omega⟩] at this
  · refine ⟨0, zf, zf, relB_same (fun _ _ => rfl), fun w _ => ?_, fun w => refId_bad n s (by omega) w⟩
    have := id_any n s hs w
    rwa [show sizedB n = false by rw [Bool.eq_false_iff]; intro h2; exact h (sizedB_iff.1 h2)] at this
theorem cross_both (n : Int) (s t : Nat) (hs : s < 2 ^ 64) (ht : t < 2 ^ 64) : SameR 12 13 #[.int .i64 n, .int .u64 (s : Int), .int .u64 (t : Int)] := by
  by_cases h : 0 ≤ n ∧ n ≤ 48
  · obtain ⟨N, rfl⟩ : ∃ N : Nat, n = (N : Int) := ⟨n.toNat, by omega⟩
    have hN : N ≤ 48 := by omega
    refine ⟨N, prodF N s t, fillF (crossP s t) N N 0, relB_bits fun i j _ => ?_, fun w _ => cross_ok hN hs ht w, fun w => refCross_ok N s t hN hs ht w⟩
    rw [bt_prod hN, bt_fill]
    unfold crossP
    rw [Bool.and_eq_true]
  · refine ⟨0, zf, zf, relB_same (fun _ _ => rfl), fun w _ => ?_, fun w => refCross_bad n s t (by omega) w⟩
    have := cross_any n s t hs ht w
    rwa [show sizedB n = false by rw [Bool.eq_false_iff]; intro h2; exact h (sizedB_iff.1 h2)] at this
theorem back_both (n : Int) (f : Nat → Nat) (hf : R64 f) : SameR 24 25 #[.agg (relC n f)] := by
  cases hb : rightB n f
  · exact ⟨0, zf, zf, relB_same (fun _ _ => rfl), fun w hT => bad_back hb hf w hT, fun w => refBack_bad n f hf hb w⟩
  · obtain ⟨⟨n0, n1⟩, -⟩ := rightB_iff.1 hb
    obtain ⟨N, rfl⟩ : ∃ N : Nat, n = (N : Int) := ⟨n.toNat, by omega⟩
    have hr : Rgt N f := hb
    refine ⟨N, backF N f, fillF (backP f) N N 0, relB_bits fun j i hj => ?_, fun w hT => turn_ok hf hr w hT, fun w => refBack_ok N f hf hr w⟩
    rw [bt_back hr hj, bt_fill]
    unfold backP
    constructor
    · rintro ⟨hi, hb⟩
      exact ⟨hr.snd hi hb, hr.fst hi hb, hb⟩
    · rintro ⟨_, hi, hb⟩
      exact ⟨by have := hr.le; omega, hb⟩
theorem plus_both (n : Int) (f : Nat → Nat) (hf : R64 f) : SameR 26 27 #[.agg (relC n f)] := by
  cases hb : rightB n f
  · exact ⟨0, zf, zf, relB_same (fun _ _ => rfl), fun w hT => bad_plus hb hf w hT, fun w => refPlus_bad n f hf hb w⟩
  · obtain ⟨⟨n0, n1⟩, -⟩ := rightB_iff.1 hb
    obtain ⟨N, rfl⟩ : ∃ N : Nat, n = (N : Int) := ⟨n.toNat, by omega⟩
    have hr : Rgt N f := hb
    exact ⟨N, plusF N f, warK f N N, war_plus hr, fun w hT => plus_ok hf hr w hT, fun w => refPlus_ok N f hf hr w⟩
theorem star_both (n : Int) (f : Nat → Nat) (hf : R64 f) : SameR 28 29 #[.agg (relC n f)] := by
  cases hb : rightB n f
  · exact ⟨0, zf, zf, relB_same (fun _ _ => rfl), fun w hT => bad_star hb hf w hT, fun w => refStar_bad n f hf hb w⟩
  · obtain ⟨⟨n0, n1⟩, -⟩ := rightB_iff.1 hb
    obtain ⟨N, rfl⟩ : ∃ N : Nat, n = (N : Int) := ⟨n.toNat, by omega⟩
    have hr : Rgt N f := hb
    refine ⟨N, starR N f, starK (warK f N N) N, relB_same fun i hi => ?_, fun w hT => ?_, fun w => refStar_ok N f hf hr w⟩
    · have hw := (relB_iff.1 (war_plus hr)).2 i hi
      have hz := (rgt_plus hr).zero hi
      unfold starR starK unionF
      rw [hb, if_pos rfl]
      unfold opN cutF starF pw
      rw [if_pos rfl]
      by_cases h : (i : Int) < N
      · rw [if_pos h, if_pos h, hw]
      · rw [if_neg h, if_neg h, ← hw, hz (by omega)]; rfl
    · have := star_any N f w hf hT
      rwa [hb] at this
theorem of_both (n : Int) (ps : List (Int × Int)) : ∃ (N : Int) (F : Nat → Nat) (b : Bool),
    (∀ w v, PairSl w.heap.size w v ps → Calls Tryd.prog 8 #[.int .i64 n, v] w fun e w' => e = .returned (.tuple #[.agg (relC N F), .int .i64 (opE b)]) ∧ Below w.heap.size w w') ∧
    (∀ w v, PairSl w.heap.size w v ps → Calls Tryd.prog 9 #[.int .i64 n, v] w fun e w' => e = .returned (.tuple #[.agg (relC N F), .bool b]) ∧ Below w.heap.size w w') :=
  ⟨opN (ofB n ps) n, if ofB n ps then ofL ps else zf, ofB n ps, fun w v h => relOf_any n v ps w h, fun w v h => refOf_any n v ps w h⟩
theorem from_both (n : Int) (f : Nat → Nat) (hf : R64 f) : ∃ s : Nat,
    (∀ w, Calls Tryd.prog 30 #[.agg (relC n f)] w fun e w' => e = .returned (.int .u64 (s : Int)) ∧ Below w.heap.size w w') ∧
    (∀ w, Calls Tryd.prog 31 #[.agg (relC n f)] w fun e w' => e = .returned (.int .u64 (s : Int)) ∧ Below w.heap.size w w') := by
  cases hb : rightB n f
  · exact ⟨0, fun w => bad_from hb hf w, fun w => refFrom_bad n f hf hb w⟩
  · obtain ⟨⟨n0, n1⟩, -⟩ := rightB_iff.1 hb
    obtain ⟨N, rfl⟩ : ∃ N : Nat, n = (N : Int) := ⟨n.toNat, by omega⟩
    have hr : Rgt N f := hb
    refine ⟨fromK f N, fun w => ?_, fun w => refFrom_ok N f hf hr w⟩
    have := from_any N f w hf
    rwa [hb, if_pos rfl, Int.toNat_natCast] at this
theorem into_both (n : Int) (f : Nat → Nat) (hf : R64 f) : ∃ s : Nat,
    (∀ w, Tab w → Calls Tryd.prog 32 #[.agg (relC n f)] w fun e w' => e = .returned (.int .u64 (s : Int)) ∧ Below w.heap.size w w') ∧
    (∀ w, Calls Tryd.prog 33 #[.agg (relC n f)] w fun e w' => e = .returned (.int .u64 (s : Int)) ∧ Below w.heap.size w w') := by
  cases hb : rightB n f
  · exact ⟨0, fun w hT => bad_into hb hf w hT, fun w => refInto_bad n f hf hb w⟩
  · obtain ⟨⟨n0, n1⟩, -⟩ := rightB_iff.1 hb
    obtain ⟨N, rfl⟩ : ∃ N : Nat, n = (N : Int) := ⟨n.toNat, by omega⟩
    have hr : Rgt N f := hb
    refine ⟨imgF f (allOf (N : Int)).toNat, fun w hT => ?_, fun w => refInto_ok N f hf hr w⟩
    have := into_any N f w hf hT
    rwa [hb, if_pos rfl] at this
theorem pairsl_none (W : World) : PairSl W.heap.size W (.slice none 0 0) [] := ⟨by simp, none, 0, rfl, fun h => absurd h (by simp)⟩
theorem pairs_both (n : Int) (f : Nat → Nat) (hf : R64 f) : ∃ ps : List (Int × Int),
    (∀ w, Tab w → Calls Tryd.prog 22 #[.agg (relC n f)] w fun e w' => ∃ v, e = .returned v ∧ PairSl w'.heap.size w' v ps ∧ Below w.heap.size w w') ∧
    (∀ w, Calls Tryd.prog 23 #[.agg (relC n f)] w fun e w' => ∃ v, e = .returned v ∧ PairSl w'.heap.size w' v ps ∧ Below w.heap.size w w') := by
  cases hb : rightB n f
  · refine ⟨[], fun w hT => (bad_nil hb hf w).mono ?_, fun w => (refPairs_bad n f hf hb w).mono ?_⟩
    · rintro e w' ⟨rfl, h⟩; exact ⟨_, rfl, pairsl_none w', h⟩
    · rintro e w' ⟨rfl, h⟩; exact ⟨_, rfl, pairsl_none w', h⟩
  · obtain ⟨⟨n0, n1⟩, -⟩ := rightB_iff.1 hb
    obtain ⟨N, rfl⟩ : ∃ N : Nat, n = (N : Int) := ⟨n.toNat, by omega⟩
    have hr : Rgt N f := hb
    have hle := pairsK_le f N (by omega)
    refine ⟨(pairsK f N).map itP, fun w hT => (relPairs_ok hf hr w hT).mono ?_, fun w => (refPairs_ok N f hf hr w).mono ?_⟩
    · rintro e w' ⟨v, rfl, h, h2⟩; exact ⟨v, rfl, pairSl_of_row h (by unfold maxLen; omega), h2⟩
    · rintro e w' ⟨v, rfl, h, h2⟩; exact ⟨v, rfl, pairSl_of_row h (by unfold maxLen; omega), h2⟩
/-- Two of them, as the one says and as the other. -/
theorem two_both (n m : Int) (f g : Nat → Nat) (hf : R64 f) (hg : R64 g) :
    SameE 14 18 #[.agg (relC n f), .agg (relC m g)] #[.int .i64 0, .agg (relC n f), .agg (relC m g)] ∧
    SameE 15 18 #[.agg (relC n f), .agg (relC m g)] #[.int .i64 1, .agg (relC n f), .agg (relC m g)] ∧
    SameE 16 18 #[.agg (relC n f), .agg (relC m g)] #[.int .i64 2, .agg (relC n f), .agg (relC m g)] ∧
    SameE 17 18 #[.agg (relC n f), .agg (relC m g)] #[.int .i64 3, .agg (relC n f), .agg (relC m g)] := by
  cases hb : combB n m f g
  · refine ⟨⟨0, zf, zf, false, relB_same (fun _ _ => rfl), fun w _ => ?_, fun w => refTwo_bad 0 n m f g hf hg hb w⟩, ⟨0, zf, zf, false, relB_same (fun _ _ => rfl), fun w _ => ?_, fun w => refTwo_bad 1 n m f g hf hg hb w⟩,
      ⟨0, zf, zf, false, relB_same (fun _ _ => rfl), fun w _ => ?_, fun w => refTwo_bad 2 n m f g hf hg hb w⟩, ⟨0, zf, zf, false, relB_same (fun _ _ => rfl), fun w hT => ?_, fun w => refTwo_bad 3 n m f g hf hg hb w⟩⟩
    · have := union_any n m f g hf hg w
      unfold CombPost at this
      rwa [hb] at this
    · have := both_any n m f g hf hg w
      unfold CombPost at this
      rwa [hb] at this
    · have := less_any n m f g hf hg w
      unfold CombPost at this
      rwa [hb] at this
    · have := thens_any n m f g hf hg w hT
      unfold CombPost at this
      rwa [hb] at this
  · obtain ⟨rfl, h1, h2⟩ := combB_iff.1 hb
    obtain ⟨⟨n0, n1⟩, -⟩ := rightB_iff.1 h1
    obtain ⟨N, rfl⟩ : ∃ N : Nat, n = (N : Int) := ⟨n.toNat, by omega⟩
    have hr : Rgt N f := h1
    have hs : Rgt N g := h2
    refine ⟨⟨N, unionF f g, _, true, relB_bits fun i j hi => ?_, fun w _ => union_ok hf hg hr hs w, fun w => refTwo_ok0 N f g hf hg hr hs w⟩, ⟨N, bothF f g, _, true, relB_bits fun i j hi => ?_, fun w _ => both_ok hf hg hr hs w, fun w => refTwo_ok1 N f g hf hg hr hs w⟩,
      ⟨N, lessF f g, _, true, relB_bits fun i j hi => ?_, fun w _ => less_ok hf hg hr hs w, fun w => refTwo_ok2 N f g hf hg hr hs w⟩, ⟨N, thenF f g, _, true, relB_bits fun i j hi => ?_, fun w hT => then_ok hf hg hr hs w hT, fun w => refTwo_ok3 N f g hf hg hr hs w⟩⟩
    · rw [bt_union, bt_fill]
      show _ ↔ _ ∧ _ ∧ ((f i).testBit j || (g i).testBit j) = true
      rw [Bool.or_eq_true]
      constructor
      · rintro (h | h)
        · exact ⟨hr.fst hi h, hr.snd hi h, .inl h⟩
        · exact ⟨hs.fst hi h, hs.snd hi h, .inr h⟩
      · exact fun h => h.2.2
    · rw [bt_both, bt_fill]
      show _ ↔ _ ∧ _ ∧ ((f i).testBit j && (g i).testBit j) = true
      rw [Bool.and_eq_true]
      exact ⟨fun h => ⟨hr.fst hi h.1, hr.snd hi h.1, h⟩, fun h => h.2.2⟩
    · rw [bt_less hf hg, bt_fill]
      show _ ↔ _ ∧ _ ∧ ((f i).testBit j && !(g i).testBit j) = true
      rw [Bool.and_eq_true]
      exact ⟨fun h => ⟨hr.fst hi h.1, hr.snd hi h.1, h.1, by simpa [Bt] using h.2⟩, fun h => ⟨h.2.2.1, by simpa [Bt] using h.2.2.2⟩⟩
    · rw [bt_then hr hi, bt_fill]
      show _ ↔ _ ∧ _ ∧ thruK f g i j N = true
      unfold thruK
      rw [List.any_eq_true]
      constructor
      · rintro ⟨k, hk, h1, h2⟩
        exact ⟨hr.fst hi h1, hs.snd hk h2, k, List.mem_range.2 (hr.snd hi h1), by rw [Bool.and_eq_true]; exact ⟨h1, h2⟩⟩
      · rintro ⟨_, _, k, hk, h⟩
        rw [Bool.and_eq_true] at h
        exact ⟨k, by have := List.mem_range.1 hk; have := hr.le; omega, h.1, h.2⟩
end Go.Proofs.YtakhmjohncidoaaDoor
end

section
/- The document's answers for layer 2: Irreflexive, Acyclic. -/
namespace Go.Proofs.YtakhmjohncidoaaDoor
open Go.RowKit Go.Shelf

attribute [local go_sem] Oper.semAt_some

def irrH (n : Int) (f : Nat → Nat) (k : Nat) : Bool := (List.range k).all fun (i : Nat) => !hasB n f (i : Int) (i : Int)
theorem irrH_succ (n : Int) (f : Nat → Nat) (k : Nat) : irrH n f (k + 1) = (irrH n f k && !hasB n f (k : Int) (k : Int)) := by simp [irrH, List.range_succ]
theorem hasB_iff' {n : Int} {f : Nat → Nat} {a b : Int} : hasB n f a b = true ↔ rightB n f = true ∧ (0 ≤ a ∧ a < n) ∧ (0 ≤ b ∧ b < n) ∧ (f a.toNat).testBit b.toNat = true := by
  unfold hasB
  simp only [Bool.and_eq_true, itemB_iff]
theorem irrH_bad {n : Int} {f : Nat → Nat} {k : Nat} (h : hasB n f (k : Int) (k : Int) = true) : (rightB n f && irrK f n.toNat) = false := by
  obtain ⟨hr, ⟨h0, h1⟩, -, hb⟩ := hasB_iff'.1 h
  rw [hr, Bool.true_and]
  exact irrK_bad f k n.toNat (by omega) (by simpa using hb)
theorem irrH_all {n : Int} {f : Nat → Nat} (h : irrH n f 48 = true) : rightB n f = (rightB n f && irrK f n.toNat) := by
  cases hr : rightB n f
  · rfl
  obtain ⟨⟨n0, n1⟩, -⟩ := rightB_iff.1 hr
  rw [Bool.true_and]
  symm
  refine irrK_iff.2 fun i hi hb => ?_
  have h2 : ∀ x : Nat, x < 48 → hasB n f (x : Int) (x : Int) = false := fun x hx => by
    have := List.all_eq_true.1 h x (List.mem_range.2 hx)
    simpa only [Bool.not_eq_true'] using this
  have h3 := h2 i (by omega)
  rw [hasB_iff'.2 ⟨hr, ⟨by omega, by omega⟩, ⟨by omega, by omega⟩, by simpa [Bt] using hb⟩] at h3
  cases h3

set_option maxRecDepth 100000 in
set_option maxHeartbeats 4000000 in
theorem refIrr_any (n : Int) (f : Nat → Nat) (hf : R64 f) (w : World) :
    Calls Tryd.prog 41 #[.agg (relC n f)] w fun e w' => e = .returned (.bool (rightB n f && irrK f n.toNat)) ∧ Below w.heap.size w w' := by
  have hA := RelAt.new w n f
  have hB := below_new w (.cells (relC n f) 26)
  have CH := Lib.hid (fun a w => refRelHas_any n f a a hf w)
  have CR := Lib.hid (refRight_any n f hf)
  go_enter Tryd.func41, Tryd.ntmps41
  generalize hw0 : w.alloc (.cells (relC n f) 26) = w0 at *
  go_wp2
  go_loopw [3] (fun i W => ∃ k : Nat, k ≤ 48 ∧ i = .int .i64 k ∧ Below w0.heap.size w0 W ∧ irrH n f k = true) (fun i _ => 48 - (intOf i).toNat)
  case atStart => exact ⟨0, by omega, rfl, Below.refl _ _, rfl⟩
  case round =>
    obtain ⟨k, hk, rfl, hX, hI⟩ := hrel
    have l1 := (hA.on hX).ld
    by_cases hk8 : k < 48
    · have tk : decide ((k : Int) < 48) = true := by simpa using (by omega : (k : Int) < 48)
      have hXh := Lib.hid hX
      clear hX
      cases hv : hasB n f (k : Int) (k : Int)
      · have C1 := Lib.hid (CH.out (k : Int))
        rw [hv] at C1
        have hI2 : irrH n f (k + 1) = true := by rw [irrH_succ, hI, hv]; rfl
        replace hI2 := Lib.hid hI2
        clear hv hI
        go_wp2_with fail
        refine (C1.out _).mono ?_
        rintro e w1 ⟨rfl, h⟩
        go_wp2
        go_roundw
        case rel => exact ⟨k + 1, by omega, by go_num, thru hXh.out h, hI2.out⟩
        case measure => simp [intOf]; omega
      · have C1 := Lib.hid (CH.out (k : Int))
        rw [hv] at C1
        have hv2 := Lib.hid (irrH_bad hv)
        clear hv hI
        go_wp2_with fail
        refine (C1.out _).mono ?_
        rintro e w1 ⟨rfl, h⟩
        go_wp2
        go_ret
        rw [hv2.out]
        exact ⟨rfl, thru (thru hB hXh.out) h⟩
    · obtain rfl : k = 48 := by omega
      have hXh := Lib.hid hX
      have hI2 := Lib.hid (irrH_all hI)
      clear hX hI
      go_wp2_with fail
      refine (CR.out _).mono ?_
      rintro e w1 ⟨rfl, h⟩
      go_wp2
      go_ret
      rw [← hI2.out]
      exact ⟨rfl, thru (thru hB hXh.out) h⟩

set_option maxRecDepth 100000 in
set_option maxHeartbeats 4000000 in
theorem refAcyclic_bad (n : Int) (f : Nat → Nat) (hf : R64 f) (hb : rightB n f = false) (w : World) :
    Calls Tryd.prog 43 #[.agg (relC n f)] w fun e w' => e = .returned (.bool false) ∧ Below w.heap.size w w' := by
  have hA := RelAt.new w n f
  have hB := below_new w (.cells (relC n f) 26)
  have l1 := hA.ld
  have CR := Lib.hid (refRight_any n f hf)
  rw [hb] at CR
  clear hb
  go_enter Tryd.func43, Tryd.ntmps43
  go_wp2_with fail
  refine (CR.out _).mono ?_
  rintro e w1 ⟨rfl, h⟩
  go_wp2
  go_ret
  exact ⟨rfl, thru hB h⟩

set_option maxRecDepth 100000 in
set_option maxHeartbeats 4000000 in
theorem refAcyclic_ok (N : Nat) (f : Nat → Nat) (hf : R64 f) (hr : Rgt N f) (w : World) :
    Calls Tryd.prog 43 #[.agg (relC N f)] w fun e w' => e = .returned (.bool (irrK (warK f N N) N)) ∧ Below w.heap.size w w' := by
  have hA := RelAt.new w N f
  have hB := below_new w (.cells (relC N f) 26)
  have l1 := hA.ld
  have CR := Lib.hid (refRight_any N f hf)
  rw [show rightB N f = true from hr] at CR
  have CP := Lib.hid (refPlus_ok N f hf hr)
  have CI := Lib.hid (refIrr_any N (warK f N N) (war_64 hr.le hf N))
  rw [show rightB N (warK f N N) = true from rgt_war hr N, Bool.true_and, Int.toNat_natCast] at CI
  go_enter Tryd.func43, Tryd.ntmps43
  go_wp2_with fail
  refine (CR.out _).mono ?_
  rintro e w1 ⟨rfl, h⟩
  clear l1
  have l1 := (hA.on h).ld
  go_wp2_with fail
  refine (CP.out _).mono ?_
  rintro e w2 ⟨rfl, h2⟩
  go_wp2_with fail
  refine (CI.out _).mono ?_
  rintro e w3 ⟨rfl, h3⟩
  go_wp2
  go_ret
  exact ⟨by simp, thru (thru (thru hB h) h2) h3⟩
theorem bt_war_plus {N : Nat} {f : Nat → Nat} (h : Rgt N f) {i j : Nat} (hi : i < 48) : Bt (warK f N N) i j ↔ Bt (plusF N f) i j :=
  ⟨war_sound h N hi, fun hb => plus_min h (fun i j hi hb => war_base h N hi hb) (fun i m j hi hm h1 h2 => war_trans h N hi hm ((rgt_war h N).snd hi h1) h1 h2) hi hb⟩
theorem irr_war {N : Nat} {f : Nat → Nat} (hr : Rgt N f) : irrK (warK f N N) N = irrK (plusF N f) N := by
  rw [Bool.eq_iff_iff, irrK_iff, irrK_iff]
  exact forall_congr' fun i => forall_congr' fun hi => not_congr (bt_war_plus hr (by have := hr.le; omega))
end Go.Proofs.YtakhmjohncidoaaDoor
end

section
/- The document's answers for layer 2: steps. -/
namespace Go.Proofs.YtakhmjohncidoaaDoor
open Go.RowKit Go.Shelf

attribute [local go_sem] Oper.semAt_some

/-- A walk of t steps from a to i, all things after a above c. -/
def Up (N : Nat) (f : Nat → Nat) (c : Nat) : Nat → Nat → Nat → Prop
  | 0, a, i => i = a
  | t + 1, a, j => c < j ∧ j < N ∧ ∃ i, i < N ∧ Up N f c t a i ∧ Bt f i j
/-- From a one comes to c with t + 1 steps, through things above c. -/
def Hit (N : Nat) (f : Nat → Nat) (c t a : Nat) : Prop := ∃ i, i < N ∧ Up N f c t a i ∧ Bt f i c
def StepsIs (N : Nat) (f : Nat → Nat) (c a r : Nat) : Prop :=
  (1 ≤ r ∧ r ≤ 48 ∧ Hit N f c (r - 1) a ∧ ∀ u, u + 1 < r → ¬ Hit N f c u a) ∨ (r = 100 ∧ ∀ u, u < 48 → ¬ Hit N f c u a)
theorem steps_uniq {N : Nat} {f : Nat → Nat} {c a r s : Nat} (h : StepsIs N f c a r) (h2 : StepsIs N f c a s) : r = s := by
  rcases h with ⟨h0, h1, hh, hl⟩ | ⟨h0, hl⟩ <;> rcases h2 with ⟨g0, g1, gh, gl⟩ | ⟨g0, gl⟩
  · rcases Nat.lt_trichotomy r s with h | h | h
    · exact absurd hh (gl (r - 1) (by omega))
    · exact h
    · exact absurd gh (hl (s - 1) (by omega))
  · exact absurd hh (gl (r - 1) (by omega))
  · exact absurd gh (hl (s - 1) (by omega))
  · omega
theorem steps_upto (N : Nat) (f : Nat → Nat) (c a : Nat) : ∀ m, m ≤ 48 → (∃ r, 1 ≤ r ∧ r ≤ m ∧ Hit N f c (r - 1) a ∧ ∀ u, u + 1 < r → ¬ Hit N f c u a) ∨ ∀ u, u < m → ¬ Hit N f c u a
  | 0, _ => .inr fun u h => by omega
  | m + 1, hm => by
    rcases steps_upto N f c a m (by omega) with ⟨r, h0, h1, h2⟩ | h
    · exact .inl ⟨r, h0, by omega, h2⟩
    · rcases Classical.em (Hit N f c m a) with hh | hh
      · exact .inl ⟨m + 1, by omega, by omega, hh, fun u hu => h u (by omega)⟩
      · refine .inr fun u hu => ?_
        rcases Nat.lt_or_eq_of_le (Nat.le_of_lt_succ hu) with h1 | rfl
        · exact h u h1
        · exact hh
theorem steps_ex (N : Nat) (f : Nat → Nat) (c a : Nat) : ∃ r, StepsIs N f c a r := by
  rcases steps_upto N f c a 48 (by omega) with ⟨r, h⟩ | h
  · exact ⟨r, .inl h⟩
  · exact ⟨100, .inr ⟨rfl, h⟩⟩

def UpS (N : Nat) (f : Nat → Nat) (c t a s : Nat) : Prop := ∀ i, s.testBit i = true ↔ Up N f c t a i
def NxS (N : Nat) (f : Nat → Nat) (c s k m s' : Nat) : Prop := ∀ j, s'.testBit j = true ↔ c < j ∧ j < N ∧ ∃ i, i < N ∧ (i < k ∨ (i = k ∧ j < m)) ∧ s.testBit i = true ∧ Bt f i j
def NoHit (f : Nat → Nat) (c s k m : Nat) : Prop := ∀ i, (i < k ∨ (i = k ∧ c < m)) → s.testBit i = true → ¬ Bt f i c
theorem nx_start (N : Nat) (f : Nat → Nat) (c s : Nat) : NxS N f c s 0 0 0 := fun j => by
  simp only [Nat.zero_testBit, Bool.false_eq_true, false_iff]
  rintro ⟨_, _, i, _, h | ⟨_, h⟩, _⟩ <;> omega
theorem nx_same {N : Nat} {f : Nat → Nat} {c s k m s' : Nat} (h : NxS N f c s k m s') (hn : ¬ (s.testBit k = true ∧ Bt f k m ∧ c < m)) : NxS N f c s k (m + 1) s' := fun j => by
  rw [h j]
  constructor
  · rintro ⟨h0, h1, i, h2, h3, h4⟩
    exact ⟨h0, h1, i, h2, by omega, h4⟩
  · rintro ⟨h0, h1, i, h2, h3 | ⟨rfl, h3⟩, h4, h5⟩
    · exact ⟨h0, h1, i, h2, .inl h3, h4, h5⟩
    · rcases Nat.lt_or_eq_of_le (Nat.le_of_lt_succ h3) with h6 | rfl
      · exact ⟨h0, h1, i, h2, .inr ⟨rfl, h6⟩, h4, h5⟩
      · exact absurd ⟨h4, h5, h0⟩ hn
theorem nx_add {N : Nat} {f : Nat → Nat} {c s k m s' : Nat} (h : NxS N f c s k m s') (hk : k < N) (hm : m < N) (hc : c < m) (hs : s.testBit k = true) (hb : Bt f k m) : NxS N f c s k (m + 1) (s' ||| 2 ^ m) := fun j => by
  rw [Nat.testBit_or, Bool.or_eq_true, h j, Nat.testBit_two_pow, decide_eq_true_iff]
  constructor
  · rintro (⟨h0, h1, i, h2, h3, h4⟩ | rfl)
    · exact ⟨h0, h1, i, h2, by omega, h4⟩
    · exact ⟨hc, hm, k, hk, .inr ⟨rfl, by omega⟩, hs, hb⟩
  · rintro ⟨h0, h1, i, h2, h3, h4, h5⟩
    by_cases he : m = j
    · exact .inr he
    · exact .inl ⟨h0, h1, i, h2, by omega, h4, h5⟩
theorem nx_row {N : Nat} {f : Nat → Nat} {c s k s' : Nat} (h : NxS N f c s k N s') : NxS N f c s (k + 1) 0 s' := fun j => by
  rw [h j]
  constructor
  · rintro ⟨h0, h1, i, h2, h3, h4⟩
    exact ⟨h0, h1, i, h2, by omega, h4⟩
  · rintro ⟨h0, h1, i, h2, h3, h4⟩
    exact ⟨h0, h1, i, h2, by omega, h4⟩
theorem nh_next {f : Nat → Nat} {c s k m : Nat} (h : NoHit f c s k m) (hn : ¬ (m = c ∧ s.testBit k = true ∧ Bt f k c)) : NoHit f c s k (m + 1) := fun i hi hs hb => by
  by_cases h1 : i < k ∨ (i = k ∧ c < m)
  · exact h i h1 hs hb
  · have h2 : i = k ∧ m = c := by omega
    exact hn ⟨h2.2, h2.1 ▸ hs, h2.1 ▸ hb⟩
theorem nh_row {N : Nat} {f : Nat → Nat} {c s k : Nat} (hc : c < N) (h : NoHit f c s k N) : NoHit f c s (k + 1) 0 := fun i hi => h i (by omega)
theorem up_next {N : Nat} {f : Nat → Nat} {c t a s s' : Nat} (hu : UpS N f c t a s) (h : NxS N f c s N 0 s') : UpS N f c (t + 1) a s' := fun j => by
  rw [h j]
  show _ ↔ c < j ∧ j < N ∧ ∃ i, i < N ∧ Up N f c t a i ∧ Bt f i j
  constructor
  · rintro ⟨h0, h1, i, h2, h3, h4, h5⟩
    exact ⟨h0, h1, i, h2, (hu i).1 h4, h5⟩
  · rintro ⟨h0, h1, i, h2, h3, h4⟩
    exact ⟨h0, h1, i, h2, .inl h2, (hu i).2 h3, h4⟩
theorem up_nohit {N : Nat} {f : Nat → Nat} {c t a s : Nat} (hu : UpS N f c t a s) (h : NoHit f c s N 0) : ¬ Hit N f c t a := by
  rintro ⟨i, hi, h1, h2⟩
  exact h i (.inl hi) ((hu i).2 h1) h2
theorem nx_64 {N : Nat} {f : Nat → Nat} (hN : N ≤ 48) {c s k m s' : Nat} (h : NxS N f c s k m s') : s' < 2 ^ 64 := by
  apply Nat.lt_pow_two_of_testBit
  intro i hi
  rw [Bool.eq_false_iff]
  intro hb
  have := (h i).1 hb
  omega
theorem hasB_in {N : Nat} {f : Nat → Nat} (hr : Rgt N f) {a b : Nat} (ha : a < N) (hb : b < N) : hasB N f (a : Int) (b : Int) = (f a).testBit b := by
  unfold hasB
  rw [show rightB N f = true from hr, itemB_iff.2 ⟨by omega, by omega⟩, itemB_iff.2 ⟨by omega, by omega⟩]
  simp

set_option maxRecDepth 100000 in
set_option maxHeartbeats 8000000 in
theorem refSteps (N : Nat) (f : Nat → Nat) (hf : R64 f) (hr : Rgt N f) (a c r : Nat) (ha : a < N) (hc : c < N) (hst : StepsIs N f c a r) (w : World) :
    Calls Tryd.prog 66 #[.agg (relC N f), .int .i64 (a : Int), .int .i64 (c : Int), .int .i64 (c : Int)] w fun e w' => e = .returned (.int .i64 (r : Int)) ∧ Below w.heap.size w w' := by
  have hN := hr.le
  have hA := RelAt.new w N f
  have hB := below_new w (.cells (relC N f) 26)
  have CR := Lib.hid (fun x y (hx : x < N) (hy : y < N) w => show Calls Tryd.prog 20 #[.agg (relC N f), .int .i64 (x : Int), .int .i64 (y : Int)] w fun e w' => e = .returned (.bool ((f x).testBit y)) ∧ Below w.heap.size w w' by
    have := refRelHas_any N f (x : Int) (y : Int) hf w
    rwa [hasB_in hr hx hy] at this)
  have CH := Lib.hid (fun s i (hs : s < 2 ^ 64) (hi : i < N) w => refHas s i hs (by omega) w)
  have CW := Lib.hid (fun s i (hs : s < 2 ^ 64) (hi : i < N) w => refWith s i hs (by omega) w)
  have C0 := Lib.hid (fun w => show Calls Tryd.prog 49 #[.int .u64 0, .int .i64 (a : Int)] w fun e w' => e = .returned (.int .u64 ((2 ^ a : Nat) : Int)) ∧ w = w' by
    have := refWith 0 a (by omega) (by omega) w
    rwa [Nat.zero_or] at this)
  have hq0 : 2 ^ a < 2 ^ 64 := Nat.pow_lt_pow_right (by omega) (by omega)
  have hU0 : UpS N f c 0 a (2 ^ a) := fun i => by
    rw [Nat.testBit_two_pow, decide_eq_true_iff]
    exact eq_comm
  go_enter Tryd.func66, Tryd.ntmps66
  generalize hw0 : w.alloc (.cells (relC N f) 26) = w0 at *
  replace hst := Lib.hid hst
  generalize hq : 2 ^ a = q0 at *
  replace hq := Lib.hid hq
  go_wp2_with fail
  refine (C0.out _).mono ?_
  rintro e w1 ⟨rfl, rfl⟩
  go_wp2
  go_loopw [9, 10] (fun v n W => ∃ q s : Nat, 1 ≤ q ∧ q ≤ 49 ∧ v = .int .u64 s ∧ n = .int .i64 q ∧ s < 2 ^ 64 ∧ Below w0.heap.size w0 W ∧ Hid (UpS N f c (q - 1) a s) ∧ Hid (∀ u, u + 1 < q → ¬ Hit N f c u a)) (fun _ n _ => 49 - (intOf n).toNat)
  case atStart => exact ⟨1, q0, by omega, by omega, rfl, rfl, hq0, Below.refl _ _, Lib.hid hU0, Lib.hid (fun u h => by omega)⟩
  case round =>
    obtain ⟨q, s, hq1, hq2, rfl, rfl, hs, hX, hU, hno⟩ := hrel
    by_cases hq8 : q < 49
    · have tq : decide ((q : Int) ≤ 48) = true := by simpa using (by omega : (q : Int) ≤ 48)
      go_wp2
      go_loopw [11, 12] (fun v x W => ∃ k s' : Nat, k ≤ N ∧ v = .int .u64 s' ∧ x = .int .i64 k ∧ Below w0.heap.size w0 W ∧ Hid (NxS N f c s k 0 s') ∧ Hid (NoHit f c s k 0)) (fun _ x _ => N - (intOf x).toNat)
      case atStart => exact ⟨0, 0, by omega, rfl, rfl, hX, Lib.hid (nx_start N f c s), Lib.hid (fun i h => by omega)⟩
      case round =>
        clear hX
        obtain ⟨k, s', hk, rfl, rfl, hX, hNx, hNh⟩ := hrel
        have n1 := (hA.on hX).num
        by_cases hkN : k < N
        · have tk : decide (k < N) = true := by simpa using hkN
          have hXh := Lib.hid hX
          clear hX
          go_wp2
          go_loopw [11, 13] (fun v y W => ∃ m s' : Nat, m ≤ N ∧ v = .int .u64 s' ∧ y = .int .i64 m ∧ Below w0.heap.size w0 W ∧ Hid (NxS N f c s k m s') ∧ Hid (NoHit f c s k m)) (fun _ y _ => N - (intOf y).toNat)
          case atStart => exact ⟨0, s', by omega, rfl, rfl, hXh.out, hNx, hNh⟩
          case round =>
            clear n1 hXh hNx hNh
            obtain ⟨m, s', hm, rfl, rfl, hX, hNx, hNh⟩ := hrel
            have n1 := (hA.on hX).num
            have l1 := (hA.on hX).ld
            have hXh := Lib.hid hX
            clear hX
            by_cases hmN : m < N
            · have tm : decide (m < N) = true := by simpa using hmN
              have cH := Lib.hid (CH.out s k hs hkN)
              have cR := Lib.hid (CR.out k m hkN hmN)
              have hs' := nx_64 hN hNx.out
              have cW := Lib.hid (CW.out s' m hs' hmN)
              cases hb : s.testBit k
              · rw [hb] at cH
                have hNx2 := Lib.hid (nx_same hNx.out (fun h => by rw [hb] at h; cases h.1))
                have hNh2 := Lib.hid (nh_next hNh.out (fun h => by rw [hb] at h; cases h.2.1))
                clear hb hNx hNh
                go_wp2_with fail
                refine (cH.out _).mono ?_
                rintro e w1 ⟨rfl, rfl⟩
                go_wp2
                go_roundw
                case rel => exact ⟨m + 1, s', by omega, rfl, by go_num, hXh.out, hNx2, hNh2⟩
                case measure => simp [intOf]; omega
              · rw [hb] at cH
                cases hb2 : (f k).testBit m
                · rw [hb2] at cR
                  have hNx2 := Lib.hid (nx_same hNx.out (fun h => by have h2 := h.2.1; unfold Bt at h2; rw [hb2] at h2; cases h2))
                  have hNh2 := Lib.hid (nh_next hNh.out (fun h => by have h2 := h.2.2; unfold Bt at h2; rw [← h.1, hb2] at h2; cases h2))
                  clear hb hb2 hNx hNh
                  go_wp2_with fail
                  refine (cH.out _).mono ?_
                  rintro e w1 ⟨rfl, rfl⟩
                  go_wp2_with fail
                  refine (cR.out _).mono ?_
                  rintro e w2 ⟨rfl, h⟩
                  go_wp2
                  go_roundw
                  case rel => exact ⟨m + 1, s', by omega, rfl, by go_num, thru hXh.out h, hNx2, hNh2⟩
                  case measure => simp [intOf]; omega
                · rw [hb2] at cR
                  by_cases hmc : m = c
                  · subst hmc
                    have hrq := Lib.hid (steps_uniq hst.out (.inl ⟨hq1, by omega, ⟨k, hkN, (hU.out k).1 hb, hb2⟩, hno.out⟩))
                    clear hb hb2 hNx hNh
                    go_wp2_with fail
                    refine (cH.out _).mono ?_
                    rintro e w1 ⟨rfl, rfl⟩
                    go_wp2_with fail
                    refine (cR.out _).mono ?_
                    rintro e w2 ⟨rfl, h⟩
                    go_wp2
                    go_ret
                    rw [hrq.out]
                    exact ⟨rfl, thru (thru hB hXh.out) h⟩
                  · have hNh2 := Lib.hid (nh_next hNh.out (fun h => hmc h.1))
                    by_cases hcm : c < m
                    · have hNx2 := Lib.hid (nx_add hNx.out hkN hmN hcm hb hb2)
                      have te : decide ((m : Int) = c) = false := by simpa using (by omega : (m : Int) ≠ c)
                      have tc : decide (c < m) = true := by simpa using hcm
                      clear hb hb2 hNx hNh
                      go_wp2_with fail
                      refine (cH.out _).mono ?_
                      rintro e w1 ⟨rfl, rfl⟩
                      go_wp2_with fail
                      refine (cR.out _).mono ?_
                      rintro e w2 ⟨rfl, h⟩
                      go_wp2_with fail
                      refine (cW.out _).mono ?_
                      rintro e w3 ⟨rfl, rfl⟩
                      go_wp2
                      go_roundw
                      case rel => exact ⟨m + 1, s' ||| 2 ^ m, by omega, rfl, by go_num, thru hXh.out h, hNx2, hNh2⟩
                      case measure => simp [intOf]; omega
                    · have hNx2 := Lib.hid (nx_same hNx.out (fun h => hcm h.2.2))
                      have te : decide ((m : Int) = c) = false := by simpa using (by omega : (m : Int) ≠ c)
                      have tc : decide (c < m) = false := by simpa using (by omega : m ≤ c)
                      clear hb hb2 hNx hNh
                      go_wp2_with fail
                      refine (cH.out _).mono ?_
                      rintro e w1 ⟨rfl, rfl⟩
                      go_wp2_with fail
                      refine (cR.out _).mono ?_
                      rintro e w2 ⟨rfl, h⟩
                      go_wp2
                      go_roundw
                      case rel => exact ⟨m + 1, s', by omega, rfl, by go_num, thru hXh.out h, hNx2, hNh2⟩
                      case measure => simp [intOf]; omega
            · obtain rfl : m = N := by omega
              have hNx2 := Lib.hid (nx_row hNx.out)
              have hNh2 := Lib.hid (nh_row hc hNh.out)
              clear hNx hNh l1
              go_wp2
              go_roundw
              case rel => exact ⟨k + 1, s', by omega, rfl, by go_num, hXh.out, hNx2, hNh2⟩
              case measure => simp [intOf]; omega
        · obtain rfl : k = N := by omega
          have hs' := nx_64 hN hNx.out
          have hU2 := up_next hU.out hNx.out
          rw [show q - 1 + 1 = q + 1 - 1 by omega] at hU2
          have hU3 := Lib.hid hU2
          have hno2 : Hid (∀ u, u + 1 < q + 1 → ¬ Hit k f c u a) := Lib.hid fun u hu => by
            by_cases he : u + 1 < q
            · exact hno.out u he
            · obtain rfl : u = q - 1 := by omega
              exact up_nohit hU.out hNh.out
          have hXh := Lib.hid hX
          clear hX hU2 hNx hNh hU hno
          go_wp2
          go_roundw
          case rel => exact ⟨q + 1, s', by omega, by omega, rfl, by go_num, hs', hXh.out, hU3, hno2⟩
          case measure => simp [intOf]; omega
    · obtain rfl : q = 49 := by omega
      have hrq := Lib.hid (steps_uniq hst.out (.inr ⟨rfl, fun u hu => hno.out u (by omega)⟩))
      clear hU hno
      have hXh := Lib.hid hX
      clear hX
      go_wp2
      go_ret
      rw [hrq.out]
      exact ⟨rfl, thru hB hXh.out⟩
end Go.Proofs.YtakhmjohncidoaaDoor
end
