/- The document's answers for layer 1: Subsets. -/
import Derived.Test.YtacfamelnaocmaaDoorMarksRef3
namespace Go.Proofs.YtacfamelnaocmaaDoor
open Go.RowKit Go.Shelf

namespace MM
theorem pdep_snoc (l : List Nat) (b n : Nat) : pdep (l ++ [b]) n = pdep l n ||| (if n.testBit l.length = true then 2 ^ b else 0) := by
  induction l generalizing n with
  | nil =>
    simp only [List.nil_append, pdep, List.length_nil, Nat.testBit_zero, Nat.or_zero, Nat.zero_or, decide_eq_true_eq]
  | cons c cs ih =>
    rw [List.cons_append, pdep, ih, pdep, List.length_cons, Nat.testBit_succ, Nat.or_assoc]
theorem pdep_lt' (l : List Nat) (n : Nat) (h : ∀ b ∈ l, b < 64) : pdep l n < 2 ^ 64 := by
  apply Nat.lt_pow_two_of_testBit
  intro i hi
  exact pdep_none n (fun hm => by have := h i hm; omega)
/-- The subset's first elements. -/
def part (s j n : Nat) : Nat := pdep ((els s).take j) n
theorem part_lt (s j n : Nat) : part s j n < 2 ^ 64 := pdep_lt' _ _ (fun _ h => els_lt (List.mem_of_mem_take h))
theorem part_zero (s n : Nat) : part s 0 n = 0 := rfl
theorem part_all (s n : Nat) : part s (els s).length n = pdep (els s) n := by unfold part; rw [List.take_length]
theorem part_step (s j n : Nat) (hj : j < (els s).length) : part s (j + 1) n = part s j n ||| (if n.testBit j = true then 2 ^ ((els s)[j]'hj) else 0) := by
  unfold part
  rw [List.take_succ_eq_append_getElem hj, pdep_snoc, List.length_take, Nat.min_eq_left (by omega)]
theorem part_hit (s j n : Nat) (hj : j < (els s).length) (h : n.testBit j = true) : withOf (part s j n : Int) (((els s).map fun k : Nat => (k : Int))[j]?.getD 0) = (part s (j + 1) n : Int) := by
  rw [part_step s j n hj, if_pos h, List.getElem?_map, List.getElem?_eq_getElem hj]
  rfl
theorem part_miss (s j n : Nat) (hj : j < (els s).length) (h : n.testBit j = false) : part s (j + 1) n = part s j n := by
  rw [part_step s j n hj, h]
  simp
theorem el_bd (s j : Nat) (hj : j < (els s).length) : 0 ≤ ((els s).map fun k : Nat => (k : Int))[j]?.getD 0 ∧ ((els s).map fun k : Nat => (k : Int))[j]?.getD 0 < 64 := by
  rw [List.getElem?_map, List.getElem?_eq_getElem hj]
  have := els_lt (List.getElem_mem hj)
  simp only [Option.map_some, Option.getD_some]
  omega
end MM

set_option maxHeartbeats 400000 in
theorem refSub_arg (x m : Int) (h0 : 0 ≤ x) (h1 : x < 18446744073709551616) (hm : 65536 < m) (w : World) :
    Calls Tryd.prog 27 #[.int .u64 x, .int .i64 m] w fun e w' => e = .returned (.tuple #[.slice none 0 0, .int .i64 2]) ∧ Below w.heap.size w w' := by
  have CL := Lib.hid (refList_num x h0 h1 w)
  go_enter Tryd.func27, Tryd.ntmps27
  go_wp2_with fail
  refine CL.out.mono ?_
  rintro e w1 ⟨v, rfl, hs, hb⟩
  obtain ⟨hml, a, cap, rfl, -⟩ := hs
  rw [List.length_map] at hml ⊢
  go_wp2
  go_ret2
  exact ⟨rfl, hb⟩

set_option maxHeartbeats 1000000 in
theorem refSub_many (x m : Int) (h0 : 0 ≤ x) (h1 : x < 18446744073709551616) (hm : m ≤ 65536) (L : Nat) (hL : (MM.els x.toNat).length = L) (hmany : m < (2 ^ L : Nat)) (w : World) :
    Calls Tryd.prog 27 #[.int .u64 x, .int .i64 m] w fun e w' => e = .returned (.tuple #[.slice none 0 0, .int .i64 5]) ∧ Below w.heap.size w w' := by
  have CL := Lib.hid (refList_num x h0 h1 w)
  have HM := Lib.hid hmany
  have hl64 := MM.els_length x.toNat
  rw [hL] at hl64
  replace hL := Lib.hid hL
  clear hmany
  go_enter Tryd.func27, Tryd.ntmps27
  go_wp2_with fail
  refine CL.out.mono ?_
  rintro e w1 ⟨v, rfl, hs, hb⟩
  obtain ⟨hml, a, cap, rfl, -⟩ := hs
  rw [List.length_map, hL.out] at hml ⊢
  go_wp2
  go_loop [7, 8] (fun p i => ∃ k q : Nat, k ≤ L ∧ Hid (q = 2 ^ k) ∧ q ≤ 131072 ∧ i = .int .i64 k ∧ p = .int .i64 q) (fun _ i => L - (intOf i).toNat)
  case atStart => exact ⟨0, 1, by omega, Lib.hid rfl, by omega, rfl, rfl⟩
  case round =>
    obtain ⟨k, q, hk, hq, hq2, rfl, rfl⟩ := hrel
    by_cases hlt : k < L
    · by_cases hq3 : q ≤ 65536
      · have t0 : decide ((q : Int) ≤ 65536) = true := by simp; omega
        go_wp2
        go_round
        case rel => exact ⟨k + 1, 2 * q, by omega, Lib.hid (by rw [Nat.pow_succ, hq.out]; omega), by omega, by go_num, by go_num⟩
        case measure => simp [intOf]; omega
      · have t0 : decide ((q : Int) ≤ 65536) = false := by simp; omega
        have t1 : decide (m < (q : Int)) = true := by simp; omega
        go_wp2
        go_ret2
        exact ⟨rfl, hb⟩
    · obtain rfl : k = L := by omega
      have t1 : decide (m < (q : Int)) = true := by rw [hq.out]; exact decide_eq_true HM.out
      go_wp2
      go_ret2
      exact ⟨rfl, hb⟩

set_option maxRecDepth 100000 in
set_option maxHeartbeats 2000000 in
theorem refSub_ok (x m : Int) (h0 : 0 ≤ x) (h1 : x < 18446744073709551616) (hm : m ≤ 65536) (L N : Nat) (hL : (MM.els x.toNat).length = L) (hN : 2 ^ L = N) (hfit : (N : Int) ≤ m) (w : World) :
    Calls Tryd.prog 27 #[.int .u64 x, .int .i64 m] w fun e w' => ∃ v, e = .returned (.tuple #[v, .int .i64 0]) ∧ w'.ownsRow w.heap.size 23 1 v N (subsV x.toNat N) ∧ Below w.heap.size w w' := by
  obtain ⟨i0, hi, hz0, hz1, hz2⟩ := info_parts infoSet
  have CL := Lib.hid (refList_num x h0 h1 w)
  have hl64 := MM.els_length x.toNat
  rw [hL] at hl64
  have hN16 : N ≤ 65536 := by omega
  have t1 : decide (m < (N : Int)) = false := by simp; omega
  have HQ := Lib.hid (show ∀ k, k ≤ L → 2 ^ k ≤ N by intro k hk; rw [← hN]; exact Nat.pow_le_pow_right (by omega) hk)
  have HB := Lib.hid (fun j (hj : j < L) => MM.el_bd x.toNat j (by rw [hL]; exact hj))
  have HHit := Lib.hid (fun j n (hj : j < L) h => MM.part_hit x.toNat j n (by rw [hL]; exact hj) h)
  have HMiss := Lib.hid (fun j n (hj : j < L) h => MM.part_miss x.toNat j n (by rw [hL]; exact hj) h)
  have HAll := Lib.hid (fun n => show (MM.part x.toNat L n : Int) = (MM.pdep (MM.els x.toNat) n : Int) by rw [← hL, MM.part_all])
  replace hL := Lib.hid hL
  replace hN := Lib.hid hN
  clear hfit
  go_enter Tryd.func27, Tryd.ntmps27
  go_wp2_with fail
  refine CL.out.mono ?_
  rintro e w1 ⟨v, rfl, hs, hb⟩
  have hsz1 := hb.size
  obtain ⟨hml, a, cap, rfl, hc⟩ := hs
  rw [List.length_map, hL.out] at hml hc ⊢
  replace hc := Lib.hid hc
  go_wp2
  go_loop [7, 8] (fun p i => ∃ k q : Nat, k ≤ L ∧ Hid (q = 2 ^ k) ∧ i = .int .i64 k ∧ p = .int .i64 q) (fun _ i => L - (intOf i).toNat)
  case atStart => exact ⟨0, 1, by omega, Lib.hid rfl, rfl, rfl⟩
  case round =>
    obtain ⟨k, q, hk, hq, rfl, rfl⟩ := hrel
    have hq2 : q ≤ N := by rw [hq.out]; exact HQ.out k hk
    have t0 : decide ((q : Int) ≤ 65536) = true := by simp; omega
    by_cases hlt : k < L
    · go_wp2
      go_round
      case rel => exact ⟨k + 1, 2 * q, by omega, Lib.hid (by rw [Nat.pow_succ, hq.out]; omega), by go_num, by go_num⟩
      case measure => simp [intOf]; omega
    · obtain rfl : k = L := by omega
      obtain rfl : q = N := by rw [hq.out, hN.out]
      clear hq hlt t0
      go_wp2
      go_loopw [9, 10] (fun v i wr => ∃ n : Nat, n ≤ q ∧ i = .int .i64 n ∧ wr.ownsRow w1.heap.size 23 1 v n (subsV x.toNat n) ∧ Below w1.heap.size w1 wr) (fun _ i _ => q - (intOf i).toNat)
      case atStart => exact ⟨0, by omega, rfl, World.ownsRow_nil _ _ _ _, Below.refl _ _⟩
      case round =>
        obtain ⟨n, hn, rfl, hown, hB⟩ := hrel
        have hsz := hB.size
        obtain ⟨a0, c0, hv⟩ := ownsRow_slice hown
        rw [hv] at hown ⊢
        clear hv
        by_cases hnq : n < q
        · go_wp2
          go_loop [11, 12] (fun s i => ∃ j : Nat, j ≤ k ∧ i = .int .i64 j ∧ s = .int .u64 (MM.part x.toNat j n : Int)) (fun _ i => k - (intOf i).toNat)
          case atStart => exact ⟨0, by omega, rfl, rfl⟩
          case round =>
            obtain ⟨j, hj, rfl, rfl⟩ := hrel
            by_cases hjk : j < k
            · have hpl := MM.part_lt x.toNat j n
              obtain ⟨b, off, rfl, hb1, hc1⟩ := hc.out (by omega)
              have hck := (hB.cell (p := ⟨b, off + j, none⟩) hb1).trans (hc1 j hjk)
              have CH := has_any (n : Int) (j : Int) (by omega) (by omega) (by omega) (by omega) wr
              rw [Int.toNat_natCast, Int.toNat_natCast] at CH
              have hbd := HB.out j hjk
              cases h : n.testBit j
              · rw [h] at CH
                replace CH := Lib.hid CH
                have hst := Lib.hid (HMiss.out j n hjk h)
                clear h hc1
                go_wp2_with fail
                refine CH.out.mono ?_
                rintro e w2 ⟨rfl, rfl⟩
                go_wp2
                go_round
                case rel => exact ⟨j + 1, by omega, by go_num, by rw [hst.out]⟩
                case measure => simp [intOf]; omega
              · rw [h] at CH
                replace CH := Lib.hid CH
                have hst := HHit.out j n hjk h
                generalize ((MM.els x.toNat).map fun k : Nat => (k : Int))[j]?.getD 0 = z at hst hck hbd
                replace hst := Lib.hid hst
                obtain ⟨hz0', hz1'⟩ := hbd
                have CW := Lib.hid (with_any (MM.part x.toNat j n : Int) z (by omega) (by omega) hz0' hz1' wr)
                clear h hc1
                go_wp2_with fail
                refine CH.out.mono ?_
                rintro e w2 ⟨rfl, rfl⟩
                go_wp2_with fail
                refine CW.out.mono ?_
                rintro e w2 ⟨rfl, rfl⟩
                go_wp2
                go_round
                case rel => exact ⟨j + 1, by omega, by go_num, by rw [hst.out]⟩
                case measure => simp [intOf]; omega
            · obtain rfl : j = k := by omega
              obtain ⟨y, hy⟩ : ∃ y : Int, y = (MM.part x.toNat j n : Int) := ⟨_, rfl⟩
              have HY := Lib.hid (show subV x.toNat n = .int .u64 y by rw [hy, HAll.out]; rfl)
              rw [← hy]
              clear hy
              go_wp2_with (at_builtin; refine wpList_append_own _ rfl _ _ 39 rfl w1.heap.size 23 i0 (.int .u64 0) 1 8 Tryd.underlying39 hi hz0 hz1 hz2 rfl (by decide) _ _ _ rfl (hown.alloc _) ⟨wr.heap.size, 0, none⟩ 1 1 [.int .u64 y] rfl rfl (cell_one_new _ _ _) (by intro u hu; simp at hu; subst hu; rfl) (by unfold maxLen; omega) (by omega) (by simp; omega) ?_; intro v1 w2 hown1 hgrow1 _; obtain ⟨a1, c1, hv1⟩ := ownsRow_slice hown1; rw [hv1] at hown1 ⊢; clear hv1)
              go_roundw
              case rel =>
                refine ⟨n + 1, by omega, by go_num, ?_, (hB.alloc hsz _).grown hgrow1 (by simp; omega) (fun j hj => (hown.lt j hj).1)⟩
                rw [subsV_snoc, HY.out]
                exact hown1
              case measure => simp [intOf]; omega
        · obtain rfl : n = q := by omega
          go_wp2
          go_ret2
          exact ⟨_, rfl, ownsRow_base hown hsz1, hb.trans (hB.mono hsz1)⟩
end Go.Proofs.YtacfamelnaocmaaDoor
