/- marks.Subsets. -/
import Derived.Test.YtacfamelnaocmaaDoorMarksSub
import Derived.Test.YtacfamelnaocmaaDoorMarksSubMath
namespace Go.Proofs.YtacfamelnaocmaaDoor
open Go.RowKit Go.Shelf

theorem nextSub_pdep (s : Int) (h0 : 0 ≤ s) (h1 : s < 18446744073709551616) (n : Nat) (hn : n + 1 < 2 ^ (MM.els s.toNat).length) :
    nextSub s (MM.pdep (MM.els s.toNat) n : Int) = (MM.pdep (MM.els s.toNat) (n + 1) : Int) := by
  obtain ⟨S, rfl⟩ := Int.eq_ofNat_of_zero_le h0
  rw [Int.toNat_natCast] at *
  have hS : S < 2 ^ 64 := by omega
  have hx := MM.pdep_lt S n
  have hsub : ∀ j, (MM.pdep (MM.els S) n).testBit j = true → S.testBit j = true := fun j hj => (MM.mem_els.1 (MM.pdep_sub hj)).2
  have hsucc := MM.pdep_succ (MM.els S) n (MM.els_sorted S) hn
  generalize MM.pdep (MM.els S) n = x at *
  generalize MM.pdep (MM.els S) (n + 1) = y at *
  have hd : ∀ j, (S ^^^ x).testBit j = (S.testBit j && !x.testBit j) := by
    intro j
    rw [Nat.testBit_xor]
    have := hsub j
    cases hxj : x.testBit j <;> cases hsj : S.testBit j <;> simp_all
  have hd0 : S ^^^ x ≠ 0 := by
    intro e
    obtain ⟨k, hk, hk0, _⟩ := hsucc
    have := hd k
    rw [e, hk0, (MM.mem_els.1 hk).2] at this
    simp at this
  have hdlt : S ^^^ x < 2 ^ 64 := Nat.xor_lt_two_pow hS hx
  obtain ⟨k, m, hkm⟩ := MM.split_low _ hd0
  have hfin := MM.succ_unique S x y (S ^^^ x) k m hsub hsucc hd hS hkm
  have e1 : bits BinOp.xor IntKind.u64 IntKind.u64.max (S : Int) = ((2 ^ 64 - (S + 1) : Nat) : Int) := by
    have hm : IntKind.u64.max = ((2 ^ 64 - 1 : Nat) : Int) := by decide
    rw [hm, u64_xor_nat _ _ (by decide) (by omega)]
    congr 1
    apply Nat.eq_of_testBit_eq
    intro j
    rw [Nat.testBit_xor, Nat.testBit_two_pow_sub_one, Nat.testBit_two_pow_sub_succ hS]
    by_cases hj : j < 64
    · simp [hj]
    · rw [Nat.testBit_lt_two_pow (Nat.lt_of_lt_of_le hS (Nat.pow_le_pow_right (by omega) (by omega)))]; simp [hj]
  have e2 : x ||| (2 ^ 64 - (S + 1)) = 2 ^ 64 - ((S ^^^ x) + 1) := by
    apply Nat.eq_of_testBit_eq
    intro j
    rw [Nat.testBit_or, Nat.testBit_two_pow_sub_succ hS, Nat.testBit_two_pow_sub_succ hdlt, hd]
    by_cases hj : j < 64
    · simp only [hj, decide_true, Bool.true_and]
      have := hsub j
      cases hxj : x.testBit j <;> cases hsj : S.testBit j <;> simp_all
    · rw [Nat.testBit_lt_two_pow (Nat.lt_of_lt_of_le hx (Nat.pow_le_pow_right (by omega) (by omega)))]; simp [hj]
  unfold nextSub
  rw [e1, u64_or_nat x _ (by omega) (by omega), e2, IntKind.wrap_u64]
  have e3 : (((2 ^ 64 - ((S ^^^ x) + 1) : Nat) : Int) + 1) % 18446744073709551616 = ((2 ^ 64 - (S ^^^ x) : Nat) : Int) := by omega
  rw [e3, u64_and_nat _ _ (by omega) (by omega), Nat.and_comm, hfin]

def subV (s n : Nat) : Value := .int .u64 (MM.pdep (MM.els s) n : Int)
/-- The first n subsets. -/
def subsV (s n : Nat) : List Value := (List.range n).map (subV s)
theorem subsV_snoc (s n : Nat) : subsV s (n + 1) = subsV s n ++ [subV s n] := by simp [subsV, List.range_succ]
theorem subsV_length (s n : Nat) : (subsV s n).length = n := by simp [subsV]

theorem infoSet : (Tryd.prog.info? 23).map (fun i => (i.zero, i.size, i.bytes)) = some (some (.int .u64 0), 1, 8) := by kernel_rfl

theorem fits_iff (x m : Int) (hm : m ≤ 65536) : fits (lenOf (MM.els x.toNat)) m = decide ((2 ^ (MM.els x.toNat).length : Nat) ≤ m) := by
  unfold fits lenOf
  by_cases h : 0 < m
  · have hi := bitLen_iff (MM.els x.toNat).length m.toNat (by omega) (by omega)
    have e : ((MM.els x.toNat).length : Int) < (Lib.bitLen m.toNat : Int) ↔ ((2 ^ (MM.els x.toNat).length : Nat) : Int) ≤ m := by
      rw [Int.ofNat_lt, hi]
      generalize 2 ^ (MM.els x.toNat).length = p
      omega
    simp only [h, decide_true, Bool.true_and]
    exact decide_eq_decide.2 e
  · have hp := Nat.two_pow_pos (MM.els x.toNat).length
    generalize 2 ^ (MM.els x.toNat).length = p at *
    simp only [h, decide_false, Bool.false_and]
    symm
    simp; omega

set_option maxHeartbeats 400000 in
theorem subsets_arg (x m : Int) (hm : 65536 < m) (w : World) :
    Calls Tryd.prog 26 #[.int .u64 x, .int .i64 m] w fun e w' => e = .returned (.tuple #[.slice none 0 0, .int .i64 2]) ∧ w = w' := by
  go_enter Tryd.func26, Tryd.ntmps26
  go_wp2
  go_ret2
  exact ⟨rfl, rfl⟩

set_option maxHeartbeats 400000 in
theorem subsets_many (x m : Int) (h0 : 0 ≤ x) (h1 : x < 18446744073709551616) (hm : m ≤ 65536) (hm0 : -9223372036854775808 ≤ m) (hmany : m < (2 ^ (MM.els x.toNat).length : Nat)) (w : World) (hT : Tab w) :
    Calls Tryd.prog 26 #[.int .u64 x, .int .i64 m] w fun e w' => e = .returned (.tuple #[.slice none 0 0, .int .i64 5]) ∧ Below w.heap.size w w' := by
  have H := Lib.hid (len_any x h0 h1 w hT)
  have hf : fits (lenOf (MM.els x.toNat)) m = false := by rw [fits_iff x m hm]; simp; exact_mod_cast hmany
  have H2 : ∀ w', Calls Tryd.prog 37 #[.int .i64 (lenOf (MM.els x.toNat)), .int .i64 m] w' fun e w'' => e = .returned (.bool false) ∧ w' = w'' := by
    intro w'; have := powerFits_any (lenOf (MM.els x.toNat)) m hm hm0 w'; rwa [hf] at this
  have HH := Lib.hid H2
  clear H2 hf hmany
  go_enter Tryd.func26, Tryd.ntmps26
  go_wp2_with fail
  refine H.out.mono ?_
  rintro e w' ⟨rfl, hb⟩
  go_wp2_with fail
  refine (HH.out _).mono ?_
  rintro e w'' ⟨rfl, rfl⟩
  go_wp2
  go_ret2
  exact ⟨rfl, hb⟩
end Go.Proofs.YtacfamelnaocmaaDoor
