/- The law MarksUnion's walk. -/
import Derived.Test.YtacfamelnaocmaaDoorMarksAwake
namespace Go.Proofs.YtacfamelnaocmaaDoor
open Go.RowKit Go.Shelf
namespace MM
theorem count_or (l : List Nat) (p q : Nat → Bool) : (l.filter fun i => p i || q i).length + (l.filter fun i => p i && q i).length = (l.filter p).length + (l.filter q).length := by
  induction l with
  | nil => rfl
  | cons i l ih => simp only [List.filter_cons]; cases p i <;> cases q i <;> simp <;> omega
theorem count_diff (l : List Nat) (p q : Nat → Bool) : (l.filter fun i => p i && !q i).length + (l.filter fun i => p i && q i).length = (l.filter p).length := by
  induction l with
  | nil => rfl
  | cons i l ih => simp only [List.filter_cons]; cases p i <;> cases q i <;> simp <;> omega
theorem els_or (a b : Nat) : els (a ||| b) = (List.range 64).filter fun i => a.testBit i || b.testBit i := by simp only [els, Nat.testBit_or]
theorem els_and (a b : Nat) : els (a &&& b) = (List.range 64).filter fun i => a.testBit i && b.testBit i := by simp only [els, Nat.testBit_and]
theorem els_diff (a b : Nat) (hb : b < 2 ^ 64) : els (a &&& (18446744073709551615 - b)) = (List.range 64).filter fun i => a.testBit i && !b.testBit i := by
  unfold els
  apply List.filter_congr
  intro i hi
  rw [Nat.testBit_and, show 18446744073709551615 - b = 2 ^ 64 - (b + 1) by omega, Nat.testBit_two_pow_sub_succ hb]
  simp [List.mem_range.1 hi]

/-- The smaller of two that may be missing. -/
def minO : Option Nat → Option Nat → Option Nat
  | some i, some j => some (min i j)
  | some i, none => some i
  | none, o => o
theorem find_or (l : List Nat) (hl : l.Pairwise (· < ·)) (p q : Nat → Bool) : (l.find? fun i => p i || q i) = minO (l.find? p) (l.find? q) := by
  induction l with
  | nil => rfl
  | cons i l ih =>
    obtain ⟨h1, h2⟩ := List.pairwise_cons.1 hl
    have ih := ih h2
    simp only [List.find?_cons]
    cases hp : p i
    · cases hq : q i
      · simpa using ih
      · simp only [Bool.or_true]
        cases hf : l.find? p with
        | none => rfl
        | some j => have := h1 j (List.mem_of_find?_eq_some hf); simp [minO]; omega
    · simp only [Bool.true_or]
      cases hq : q i
      · cases hf : l.find? q with
        | none => rfl
        | some j => have := h1 j (List.mem_of_find?_eq_some hf); simp [minO]; omega
      · simp [minO]
theorem first_find (s : Nat) : nextOf (els s) (-1) = (List.range 64).find? fun i => s.testBit i := by
  unfold nextOf els
  rw [List.find?_filter]
  congr 1
  funext i
  have : (-1 : Int) < (i : Int) := by omega
  simp [this]
theorem first_or (a b : Nat) : nextOf (els (a ||| b)) (-1) = minO (nextOf (els a) (-1)) (nextOf (els b) (-1)) := by
  rw [first_find, first_find, first_find, ← find_or _ List.pairwise_lt_range]
  simp only [Nat.testBit_or]
end MM

theorem len_or (a b : Nat) : lenOf (MM.els (a ||| b)) + lenOf (MM.els (a &&& b)) = lenOf (MM.els a) + lenOf (MM.els b) := by
  unfold lenOf; rw [MM.els_or, MM.els_and]
  have := MM.count_or (List.range 64) (fun i => a.testBit i) (fun i => b.testBit i)
  unfold MM.els
  omega
theorem len_diff (a b : Nat) (hb : b < 2 ^ 64) : lenOf (MM.els (a &&& (18446744073709551615 - b))) + lenOf (MM.els (a &&& b)) = lenOf (MM.els a) := by
  unfold lenOf; rw [MM.els_diff a b hb, MM.els_and]
  have := MM.count_diff (List.range 64) (fun i => a.testBit i) (fun i => b.testBit i)
  unfold MM.els
  omega
theorem lenOf_bd (s : Nat) : 0 ≤ lenOf (MM.els s) ∧ lenOf (MM.els s) ≤ 64 := by
  have := MM.els_length s
  unfold lenOf; omega

set_option maxRecDepth 100000 in
set_option maxHeartbeats 2000000 in
theorem union_any (a b : Int) (ha0 : 0 ≤ a) (ha1 : a < 18446744073709551616) (hb0 : 0 ≤ b) (hb1 : b < 18446744073709551616) (w : World) (hT : Tab w) :
    Calls Tryd.prog 7 #[.int .u64 a, .int .u64 b] w fun e w' => e = .returned (.bool true) ∧ Below w.heap.size w w' := by
  have hp := hT.pos
  have eo := u64_or a b ha0 ha1 hb0 hb1
  have ea := u64_and a b ha0 ha1 hb0 hb1
  have ed := u64_andNot a b ha0 ha1 hb0 hb1
  have lor : a.toNat ||| b.toNat < 2 ^ 64 := Nat.or_lt_two_pow (by omega) (by omega)
  have land : a.toNat &&& b.toNat < 2 ^ 64 := Nat.lt_of_le_of_lt Nat.and_le_left (by omega)
  have ldif : a.toNat &&& (18446744073709551615 - b.toNat) < 2 ^ 64 := Nat.lt_of_le_of_lt Nat.and_le_left (by omega)
  have Co := fun w hT => len_any ((a.toNat ||| b.toNat : Nat) : Int) (by omega) (by omega) w hT
  have Ca := fun w hT => len_any ((a.toNat &&& b.toNat : Nat) : Int) (by omega) (by omega) w hT
  have Cd := fun w hT => len_any ((a.toNat &&& (18446744073709551615 - b.toNat) : Nat) : Int) (by omega) (by omega) w hT
  have CA := fun w hT => len_any a ha0 ha1 w hT
  have CB := fun w hT => len_any b hb0 hb1 w hT
  have FA := fun w hT => first_any a ha0 ha1 w hT
  have FB := fun w hT => first_any b hb0 hb1 w hT
  have FO := fun w hT => first_any ((a.toNat ||| b.toNat : Nat) : Int) (by omega) (by omega) w hT
  simp only [Int.toNat_natCast] at Co Ca Cd FO
  have s1 := len_or a.toNat b.toNat
  have s2 := len_diff a.toNat b.toNat (by omega)
  have b1 := lenOf_bd (a.toNat ||| b.toNat)
  have b2 := lenOf_bd (a.toNat &&& b.toNat)
  have b3 := lenOf_bd (a.toNat &&& (18446744073709551615 - b.toNat))
  have b4 := lenOf_bd a.toNat
  have b5 := lenOf_bd b.toNat
  have s3 := MM.first_or a.toNat b.toNat
  rw [← eo] at Co FO
  rw [← ea] at Ca
  rw [← ed] at Cd
  generalize lenOf (MM.els (a.toNat ||| b.toNat)) = n1 at *
  generalize lenOf (MM.els (a.toNat &&& b.toNat)) = n2 at *
  generalize lenOf (MM.els (a.toNat &&& (18446744073709551615 - b.toNat))) = n3 at *
  generalize lenOf (MM.els a.toNat) = n4 at *
  generalize lenOf (MM.els b.toNat) = n5 at *
  generalize nextOf (MM.els (a.toNat ||| b.toNat)) (-1) = o1 at *
  generalize nextOf (MM.els a.toNat) (-1) = o2 at *
  generalize nextOf (MM.els b.toNat) (-1) = o3 at *
  subst s3
  cases o2 <;> cases o3 <;> simp only [optV, MM.minO] at FA FB FO
  all_goals
    replace Co := Lib.hid Co
    replace Ca := Lib.hid Ca
    replace Cd := Lib.hid Cd
    replace CA := Lib.hid CA
    replace CB := Lib.hid CB
    replace FA := Lib.hid FA
    replace FB := Lib.hid FB
    replace FO := Lib.hid FO
    clear eo ea ed lor land ldif
    have t1 : (n1 + n2 != n4 + n5) = false := by simp; omega
    have t2 : (n3 + n2 != n4) = false := by simp; omega
    have T1 := Lib.hid s1
    have T2 := Lib.hid s2
    clear s1 s2
    go_enter Tryd.func7, Tryd.ntmps7
    go_wp2_with fail
    refine (Co.out _ hT).mono ?_
    rintro e w1 ⟨rfl, hB⟩
    go_wp2_with fail
    refine (Ca.out _ (hT.below hB hp)).mono ?_
    rintro e w2 ⟨rfl, hb⟩
    replace hB := hB.trans (hb.mono hB.size)
    clear hb
    go_wp2_with fail
    refine (CA.out _ (hT.below hB hp)).mono ?_
    rintro e w3 ⟨rfl, hb⟩
    replace hB := hB.trans (hb.mono hB.size)
    clear hb
    go_wp2_with fail
    refine (CB.out _ (hT.below hB hp)).mono ?_
    rintro e w4 ⟨rfl, hb⟩
    replace hB := hB.trans (hb.mono hB.size)
    clear hb
    go_wp2_with fail
    refine (Cd.out _ (hT.below hB hp)).mono ?_
    rintro e w5 ⟨rfl, hb⟩
    replace hB := hB.trans (hb.mono hB.size)
    clear hb
    go_wp2_with fail
    refine (Ca.out _ (hT.below hB hp)).mono ?_
    rintro e w6 ⟨rfl, hb⟩
    replace hB := hB.trans (hb.mono hB.size)
    clear hb
    go_wp2_with fail
    refine (CA.out _ (hT.below hB hp)).mono ?_
    rintro e w7 ⟨rfl, hb⟩
    replace hB := hB.trans (hb.mono hB.size)
    clear hb
    go_wp2_with fail
    refine (FA.out _ (hT.below hB hp)).mono ?_
    rintro e w8 ⟨rfl, hb⟩
    replace hB := hB.trans (hb.mono hB.size)
    clear hb
    go_wp2_with fail
    refine (FB.out _ (hT.below hB hp)).mono ?_
    rintro e w9 ⟨rfl, hb⟩
    replace hB := hB.trans (hb.mono hB.size)
    clear hb
    go_wp2_with fail
    refine (FO.out _ (hT.below hB hp)).mono ?_
    rintro e w10 ⟨rfl, hb⟩
    replace hB := hB.trans (hb.mono hB.size)
    clear hb
    go_wp2_with fail
    refine (awake_any _ (hT.below hB hp)).mono ?_
    rintro e w11 ⟨rfl, hb⟩
    replace hB := hB.trans (hb.mono hB.size)
    clear hb
    go_wp2
    go_ret
    exact ⟨rfl, hB⟩
end Go.Proofs.YtacfamelnaocmaaDoor
