/- The document's answers for layer 1: All, Rank, Next, List, Pick. -/
import Derived.Test.YtacfamelnaocmaaDoorMarksRef
namespace Go.Proofs.YtacfamelnaocmaaDoor
open Go.RowKit Go.Shelf
namespace MM
theorem all_or (n : Int) (h0 : 0 ≤ n) (h1 : n < 64) : withOf (allOf n) n = allOf (n + 1) := by
  have hb' := allOf_bd (n + 1)
  have e : (allOf n).toNat ||| 2 ^ n.toNat = (allOf (n + 1)).toNat := by
    apply Nat.eq_of_testBit_eq
    intro j
    rw [Nat.testBit_or, allOf_bit', allOf_bit', Nat.testBit_two_pow]
    rw [Bool.eq_iff_iff]
    simp only [Bool.or_eq_true, Bool.and_eq_true, decide_eq_true_eq]
    omega
  unfold withOf
  rw [e]
  omega
theorem all_far (n : Int) (h : 64 ≤ n) : allOf 64 = allOf n := by unfold allOf; rw [if_neg (by omega), if_pos (by omega), if_neg (by omega), if_pos (by omega)]
/-- The elements below k. -/
def elsK (x k : Nat) : List Nat := (List.range k).filter fun i => x.testBit i
theorem elsK_all (x : Nat) : elsK x 64 = els x := rfl
theorem elsK_hit (x k : Nat) (h : x.testBit k = true) : elsK x (k + 1) = elsK x k ++ [k] := by simp [elsK, List.range_succ, h]
theorem elsK_miss (x k : Nat) (h : x.testBit k = false) : elsK x (k + 1) = elsK x k := by simp [elsK, List.range_succ, h]
theorem elsK_len (x k : Nat) : (elsK x k).length ≤ k := by
  have := List.length_filter_le (fun i => x.testBit i) (List.range k)
  simpa [elsK] using this
theorem next_range (x : Nat) (i : Int) : nextOf (els x) i = (List.range 64).find? fun k => x.testBit k && decide (i < (k : Int)) := by
  unfold nextOf els
  rw [List.find?_filter]
  congr 1
  funext a
  simp [Bool.decide_and]
end MM

set_option maxHeartbeats 400000 in
theorem refAll_any (n : Int) (w : World) :
    Calls Tryd.prog 14 #[.int .i64 n] w fun e w' => e = .returned (.int .u64 (allOf n)) ∧ w = w' := by
  go_enter Tryd.func14, Tryd.ntmps14
  go_wp2
  go_loop [3, 4] (fun s i => ∃ k : Nat, k ≤ 64 ∧ i = .int .i64 k ∧ s = .int .u64 (allOf (min n k))) (fun _ i => 64 - (intOf i).toNat)
  case atStart => exact ⟨0, by omega, rfl, by unfold allOf; rw [if_pos (by omega)]⟩
  case round =>
    obtain ⟨k, hk, rfl, rfl⟩ := hrel
    by_cases hlt : k < 64
    · have hb := allOf_bd (min n k)
      by_cases hn : (k : Int) < n
      · have e1 : min n (k : Int) = k := by omega
        have CW := Lib.hid (with_any (allOf (min n k)) k hb.1 hb.2 (by omega) (by omega) w)
        have hst := Lib.hid (show withOf (allOf (min n k)) k = allOf (min n ((k + 1 : Nat) : Int)) by rw [e1, MM.all_or _ (by omega) (by omega)]; congr 1; omega)
        generalize allOf (min n (k : Int)) = s at *
        clear e1
        go_wp2_with fail
        refine CW.out.mono ?_
        rintro e w1 ⟨rfl, rfl⟩
        go_wp2
        go_round
        case rel => exact ⟨k + 1, by omega, by go_num, by rw [hst.out]⟩
        case measure => simp [intOf]; omega
      · have hst := Lib.hid (show allOf (min n k) = allOf (min n ((k + 1 : Nat) : Int)) by congr 1; omega)
        go_wp2
        go_round
        case rel => exact ⟨k + 1, by omega, by go_num, by rw [hst.out]⟩
        case measure => simp [intOf]; omega
    · obtain rfl : k = 64 := by omega
      have hst := Lib.hid (show allOf (min n ((64 : Nat) : Int)) = allOf n by
        by_cases h : 64 ≤ n
        · rw [← MM.all_far n h]; congr 1; omega
        · congr 1; omega)
      generalize allOf (min n ((64 : Nat) : Int)) = s at *
      go_wp2
      go_ret
      rw [← hst.out]
      exact ⟨rfl, rfl⟩

set_option maxHeartbeats 400000 in
theorem refRank_any (x i : Int) (h0 : 0 ≤ x) (h1 : x < 18446744073709551616) (w : World) :
    Calls Tryd.prog 20 #[.int .u64 x, .int .i64 i] w fun e w' => e = .returned (.int .i64 (rankOf (MM.els x.toNat) i)) ∧ w = w' := by
  have CH := Lib.hid (fun (k : Nat) (hk : k < 64) => has_any x k h0 h1 (by omega) (by omega) w)
  go_enter Tryd.func20, Tryd.ntmps20
  go_wp2
  go_loop [5, 6] (fun n j => ∃ k : Nat, k ≤ 64 ∧ j = .int .i64 k ∧ n = .int .i64 (rankOf (MM.elsK x.toNat k) i)) (fun _ j => 64 - (intOf j).toNat)
  case atStart => exact ⟨0, by omega, rfl, rfl⟩
  case round =>
    obtain ⟨k, hk, rfl, rfl⟩ := hrel
    have hb : 0 ≤ rankOf (MM.elsK x.toNat k) i ∧ rankOf (MM.elsK x.toNat k) i ≤ 64 := by
      have := List.length_filter_le (fun j : Nat => decide ((j : Int) < i)) (MM.elsK x.toNat k)
      have := MM.elsK_len x.toNat k
      unfold rankOf; omega
    by_cases hlt : k < 64
    · by_cases hki : (k : Int) < i
      · have C := CH.out k hlt
        rw [Int.toNat_natCast] at C
        cases h : x.toNat.testBit k
        · rw [h] at C
          have hst := Lib.hid (show rankOf (MM.elsK x.toNat (k + 1)) i = rankOf (MM.elsK x.toNat k) i by rw [MM.elsK_miss _ _ h])
          clear h
          generalize rankOf (MM.elsK x.toNat k) i = r at *
          replace C := Lib.hid C
          have t0 : decide ((k : Int) < i) = true := by simpa using hki
          go_wp2_with fail
          refine C.out.mono ?_
          rintro e w1 ⟨rfl, rfl⟩
          go_wp2
          go_round
          case rel => exact ⟨k + 1, by omega, by go_num, by rw [hst.out]⟩
          case measure => simp [intOf]; omega
        · rw [h] at C
          have hst := Lib.hid (show rankOf (MM.elsK x.toNat (k + 1)) i = rankOf (MM.elsK x.toNat k) i + 1 by rw [MM.elsK_hit _ _ h]; simp [rankOf, hki])
          clear h
          generalize rankOf (MM.elsK x.toNat k) i = r at *
          replace C := Lib.hid C
          have t0 : decide ((k : Int) < i) = true := by simpa using hki
          go_wp2_with fail
          refine C.out.mono ?_
          rintro e w1 ⟨rfl, rfl⟩
          go_wp2
          go_round
          case rel => exact ⟨k + 1, by omega, by go_num, by rw [hst.out]⟩
          case measure => simp [intOf]; omega
      · have hst := Lib.hid (show rankOf (MM.elsK x.toNat (k + 1)) i = rankOf (MM.elsK x.toNat k) i by
          cases h : x.toNat.testBit k
          · rw [MM.elsK_miss _ _ h]
          · rw [MM.elsK_hit _ _ h]; simp [rankOf, hki])
        generalize rankOf (MM.elsK x.toNat k) i = r at *
        have t0 : decide ((k : Int) < i) = false := by simpa using hki
        go_wp2
        go_round
        case rel => exact ⟨k + 1, by omega, by go_num, by rw [hst.out]⟩
        case measure => simp [intOf]; omega
    · obtain rfl : k = 64 := by omega
      rw [MM.elsK_all]
      go_wp2
      go_ret
      exact ⟨rfl, rfl⟩

set_option maxHeartbeats 400000 in
theorem refNext_any (x i : Int) (h0 : 0 ≤ x) (h1 : x < 18446744073709551616) (w : World) :
    Calls Tryd.prog 22 #[.int .u64 x, .int .i64 i] w fun e w' => e = .returned (optV (nextOf (MM.els x.toNat) i)) ∧ w = w' := by
  have CH := Lib.hid (fun (k : Nat) (hk : k < 64) => has_any x k h0 h1 (by omega) (by omega) w)
  rw [MM.next_range]
  generalize hq : (List.range 64).find? (fun k => x.toNat.testBit k && decide (i < (k : Int))) = o
  replace hq := Lib.hid hq
  go_enter Tryd.func22, Tryd.ntmps22
  go_wp2
  go_loop [6] (fun j => ∃ k : Nat, k ≤ 64 ∧ j = .int .i64 k ∧ ∀ m, m < k → (x.toNat.testBit m && decide (i < (m : Int))) = false) (fun j => 64 - (intOf j).toNat)
  case atStart => exact ⟨0, by omega, rfl, fun m hm => by omega⟩
  case round =>
    obtain ⟨k, hk, rfl, hno⟩ := hrel
    have Hno := Lib.hid hno
    clear hno
    by_cases hlt : k < 64
    · by_cases hki : i < (k : Int)
      · have C := CH.out k hlt
        rw [Int.toNat_natCast] at C
        have t0 : decide (i < (k : Int)) = true := by simpa using hki
        cases h : x.toNat.testBit k
        · rw [h] at C
          have hst := Lib.hid (show ∀ m, m < k + 1 → (x.toNat.testBit m && decide (i < (m : Int))) = false by
            intro m hm
            by_cases e : m = k
            · rw [e, h]; rfl
            · exact Hno.out m (by omega))
          clear h
          replace C := Lib.hid C
          go_wp2_with fail
          refine C.out.mono ?_
          rintro e w1 ⟨rfl, rfl⟩
          go_wp2
          go_round
          case rel => exact ⟨k + 1, by omega, by go_num, hst.out⟩
          case measure => simp [intOf]; omega
        · rw [h] at C
          have hfin : o = some k := by
            rw [← hq.out, List.find?_range_eq_some]
            refine ⟨by rw [h, t0]; rfl, List.mem_range.2 hlt, fun j hj => by rw [Hno.out j hj]; rfl⟩
          have HF := Lib.hid (show optV o = .tuple #[.int .i64 (k : Int), .bool true] by rw [hfin]; rfl)
          clear h hfin
          replace C := Lib.hid C
          go_wp2_with fail
          refine C.out.mono ?_
          rintro e w1 ⟨rfl, rfl⟩
          go_wp2
          go_ret2
          rw [HF.out]
          exact ⟨rfl, rfl⟩
      · have t0 : decide (i < (k : Int)) = false := by simpa using hki
        have hst := Lib.hid (show ∀ m, m < k + 1 → (x.toNat.testBit m && decide (i < (m : Int))) = false by
          intro m hm
          by_cases e : m = k
          · rw [e, t0]; simp
          · exact Hno.out m (by omega))
        go_wp2
        go_round
        case rel => exact ⟨k + 1, by omega, by go_num, hst.out⟩
        case measure => simp [intOf]; omega
    · obtain rfl : k = 64 := by omega
      have hfin : o = none := by
        rw [← hq.out, List.find?_range_eq_none]
        intro j hj
        rw [Hno.out j hj]; rfl
      have HF := Lib.hid (show optV o = .tuple #[.int .i64 0, .bool false] by rw [hfin]; rfl)
      clear hfin
      go_wp2
      go_ret2
      rw [HF.out]
      exact ⟨rfl, rfl⟩
end Go.Proofs.YtacfamelnaocmaaDoor
