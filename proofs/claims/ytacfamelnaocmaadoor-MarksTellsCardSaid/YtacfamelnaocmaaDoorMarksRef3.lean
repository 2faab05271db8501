/- The document's answers for layer 1: List, Of, Pick. -/
import Derived.Test.YtacfamelnaocmaaDoorMarksRef2
import Derived.Test.YtacfamelnaocmaaDoorMarksPick
import Derived.Test.YtacfamelnaocmaaDoorMarksAwake
namespace Go.Proofs.YtacfamelnaocmaaDoor
open Go.RowKit Go.Shelf

set_option maxHeartbeats 1000000 in
theorem refList_any (x : Int) (h0 : 0 ≤ x) (h1 : x < 18446744073709551616) (w : World) :
    Calls Tryd.prog 17 #[.int .u64 x] w fun e W' =>
      ∃ v, e = .returned v ∧ W'.ownsRow w.heap.size 3 1 v (MM.els x.toNat).length ((MM.els x.toNat).map intV) ∧ Below w.heap.size w W' := by
  obtain ⟨i0, hi, hz0, hz1, hz2⟩ := info_parts infoInt
  have CH := Lib.hid (fun (k : Nat) (hk : k < 64) (w : World) => has_any x k h0 h1 (by omega) (by omega) w)
  go_enter Tryd.func17, Tryd.ntmps17
  go_wp2
  go_loopw [3, 4] (fun v i wr => ∃ k : Nat, k ≤ 64 ∧ i = .int .i64 k ∧ wr.ownsRow w.heap.size 3 1 v (MM.elsK x.toNat k).length ((MM.elsK x.toNat k).map intV) ∧ Below w.heap.size w wr) (fun _ i _ => 64 - (intOf i).toNat)
  case atStart => exact ⟨0, by omega, rfl, World.ownsRow_nil _ _ _ _, Below.refl _ w⟩
  case round =>
    obtain ⟨k, hk, rfl, hown, hB⟩ := hrel
    have hsz := hB.size
    by_cases hlt : k < 64
    · have C := CH.out k hlt wr
      rw [Int.toNat_natCast] at C
      have hkl := MM.elsK_len x.toNat k
      cases h : x.toNat.testBit k
      · rw [h] at C
        have hst := Lib.hid (MM.elsK_miss _ _ h)
        clear h
        replace C := Lib.hid C
        obtain ⟨a0, c0, hv⟩ := ownsRow_slice hown
        rw [hv] at hown ⊢
        clear hv
        go_wp2_with fail
        refine C.out.mono ?_
        rintro e w1 ⟨rfl, rfl⟩
        go_wp2
        go_roundw
        case rel => exact ⟨k + 1, by omega, by go_num, by rw [hst.out]; exact hown, hB⟩
        case measure => simp [intOf]; omega
      · rw [h] at C
        have hst := Lib.hid (MM.elsK_hit _ _ h)
        clear h
        replace C := Lib.hid C
        obtain ⟨a0, c0, hv⟩ := ownsRow_slice hown
        rw [hv] at hown ⊢
        clear hv
        go_wp2_with fail
        refine C.out.mono ?_
        rintro e w1 ⟨rfl, rfl⟩
        go_wp2_with (at_builtin; refine wpList_append_own _ rfl _ _ 24 rfl w.heap.size 3 i0 (.int .i64 0) 1 8 Tryd.underlying24 hi hz0 hz1 hz2 rfl (by decide) _ _ _ rfl (hown.alloc _) ⟨wr.heap.size, 0, none⟩ 1 1 [.int .i64 (k : Int)] rfl rfl (cell_one_new _ _ _) (by intro u hu; simp at hu; subst hu; rfl) (by unfold maxLen; omega) (by omega) (by simp; omega) ?_; intro v1 w2 hown1 hgrow1 _; obtain ⟨a1, c1, hv1⟩ := ownsRow_slice hown1; rw [hv1] at hown1 ⊢; clear hv1)
        go_roundw
        case rel =>
          refine ⟨k + 1, by omega, by go_num, ?_, (hB.alloc hsz _).grown hgrow1 (by simp; omega) (fun j hj => (hown.lt j hj).1)⟩
          rw [hst.out]
          simpa [intV] using hown1
        case measure => simp [intOf]; omega
    · obtain rfl : k = 64 := by omega
      rw [MM.elsK_all] at hown
      obtain ⟨a0, c0, hv⟩ := ownsRow_slice hown
      rw [hv] at hown ⊢
      clear hv
      go_wp2
      go_ret
      exact ⟨_, rfl, hown, hB⟩

theorem refList_num (x : Int) (h0 : 0 ≤ x) (h1 : x < 18446744073709551616) (w : World) :
    Calls Tryd.prog 17 #[.int .u64 x] w fun e W' => ∃ v, e = .returned v ∧ IntSl W'.heap.size W' v ((MM.els x.toNat).map fun k : Nat => (k : Int)) ∧ Below w.heap.size w W' := by
  refine (refList_any x h0 h1 w).mono ?_
  rintro e w' ⟨v, rfl, hr, hb⟩
  have hl := MM.els_length x.toNat
  refine ⟨v, rfl, numSl_of_row (e := 3) (base := w.heap.size) ?_ (by rw [List.length_map]; unfold maxLen; omega), hb⟩
  rw [List.length_map, List.map_map]
  exact hr

theorem withOf_setL (l : List Int) (z : Int) : withOf (setL l) z = setL (l ++ [z]) := by rw [setL_snoc]; rfl

set_option maxHeartbeats 400000 in
theorem refOf_good (v : Value) (zs : List Int) (n₀ : Nat) (w : World) (hs : IntSl n₀ w v zs) (hok : okInts zs = true) :
    Calls Tryd.prog 12 #[v] w fun e w' => e = .returned (.tuple #[.int .u64 (setL zs), .bool true]) ∧ w = w' := by
  obtain ⟨hm, a, cap, rfl, h⟩ := hs
  unfold maxLen at hm
  have Hok := Lib.hid hok
  clear hok
  go_enter Tryd.func12, Tryd.ntmps12
  go_wp2
  go_loop [4, 5] (fun s i => ∃ k : Nat, k ≤ zs.length ∧ i = .int .i64 k ∧ s = .int .u64 (setL (zs.take k))) (fun _ i => zs.length - (intOf i).toNat)
  case atStart => exact ⟨0, Nat.zero_le _, rfl, rfl⟩
  case round =>
    obtain ⟨k, hk, rfl, rfl⟩ := hrel
    by_cases hlt : k < zs.length
    · obtain ⟨b, off, rfl, hb, hc⟩ := h (by omega)
      have hck := hc k hlt
      have ht := take_snoc zs k hlt
      have hz := okInts_mem Hok.out (z := zs[k]?.getD 0) (by simp [hlt])
      generalize zs[k]?.getD 0 = z at hck ht hz
      have hot := okInts_take Hok.out k
      have hst := withOf_setL (zs.take k) z
      rw [← ht] at hst
      have CW := Lib.hid (with_any (setL (zs.take k)) z (setL_nonneg _) (setL_lt _ hot) hz.1 hz.2 w)
      obtain ⟨hz0, hz1⟩ := hz
      have t0 : decide (z < 0) = false := by simp; omega
      have t1 : decide (63 < z) = false := by simp; omega
      have Hst := Lib.hid hst
      clear h hc ht hst hot
      go_wp2_with fail
      refine CW.out.mono ?_
      rintro e w1 ⟨rfl, rfl⟩
      go_wp2
      go_round
      case rel => exact ⟨k + 1, by omega, by go_num, by rw [Hst.out]⟩
      case measure => simp [intOf]; omega
    · obtain rfl : k = zs.length := by omega
      go_wp2
      go_ret2
      exact ⟨rfl, rfl⟩

set_option maxHeartbeats 400000 in
theorem refOf_bad (v : Value) (zs : List Int) (n₀ : Nat) (w : World) (hs : IntSl n₀ w v zs) (hok : okInts zs = false) :
    Calls Tryd.prog 12 #[v] w fun e w' => e = .returned (.tuple #[.int .u64 0, .bool false]) ∧ w = w' := by
  obtain ⟨m, hm1, hm2, hm3⟩ := okInts_bad hok
  clear hok
  obtain ⟨hm, a, cap, rfl, h⟩ := hs
  unfold maxLen at hm
  have Hm2 := Lib.hid hm2
  have Hm3 := Lib.hid hm3
  clear hm2 hm3
  go_enter Tryd.func12, Tryd.ntmps12
  go_wp2
  go_loop [4, 5] (fun s i => ∃ k : Nat, k ≤ m ∧ i = .int .i64 k ∧ s = .int .u64 (setL (zs.take k))) (fun _ i => zs.length - (intOf i).toNat)
  case atStart => exact ⟨0, Nat.zero_le _, rfl, rfl⟩
  case round =>
    obtain ⟨k, hk, rfl, rfl⟩ := hrel
    obtain ⟨b, off, rfl, hb, hc⟩ := h (by omega)
    by_cases hlt : k < m
    · have hck := hc k (by omega)
      have ht := take_snoc zs k (by omega)
      have hz := okInts_mem Hm2.out (z := zs[k]?.getD 0) (by rw [List.mem_take_iff_getElem]; exact ⟨k, by omega, by simp [show k < zs.length by omega]⟩)
      generalize zs[k]?.getD 0 = z at hck ht hz
      have hot : okInts (zs.take k) = true := by have := okInts_take Hm2.out k; rwa [List.take_take, Nat.min_eq_left (by omega)] at this
      have hst := withOf_setL (zs.take k) z
      rw [← ht] at hst
      have CW := Lib.hid (with_any (setL (zs.take k)) z (setL_nonneg _) (setL_lt _ hot) hz.1 hz.2 w)
      obtain ⟨hz0, hz1⟩ := hz
      have t0 : decide (z < 0) = false := by simp; omega
      have t1 : decide (63 < z) = false := by simp; omega
      have Hst := Lib.hid hst
      clear h hc ht hst hot
      go_wp2_with fail
      refine CW.out.mono ?_
      rintro e w1 ⟨rfl, rfl⟩
      go_wp2
      go_round
      case rel => exact ⟨k + 1, by omega, by go_num, by rw [Hst.out]⟩
      case measure => simp [intOf]; omega
    · obtain rfl : k = m := by omega
      have hck := hc k hm1
      have hz := Hm3.out
      generalize zs[k]?.getD 0 = z at hck hz
      clear h hc
      rcases hz with hz | hz
      · have t0 : decide (z < 0) = true := by simp; omega
        go_wp2
        go_ret2
        exact ⟨rfl, rfl⟩
      · have t0 : decide (z < 0) = false := by simp; omega
        have t1 : decide (63 < z) = true := by simp; omega
        go_wp2
        go_ret2
        exact ⟨rfl, rfl⟩

set_option maxHeartbeats 400000 in
theorem refPick_any (x k : Int) (h0 : 0 ≤ x) (h1 : x < 18446744073709551616) (w : World) :
    Calls Tryd.prog 25 #[.int .u64 x, .int .i64 k] w fun e w' => e = .returned (optV (pickOf (MM.els x.toNat) k)) ∧ Below w.heap.size w w' := by
  have CL := Lib.hid (refList_num x h0 h1 w)
  have hll := MM.els_length x.toNat
  by_cases hk0 : k < 0
  · have HF := Lib.hid (show optV (pickOf (MM.els x.toNat) k) = .tuple #[.int .i64 0, .bool false] by rw [pickOf_none (.inl hk0)]; rfl)
    have t0 : decide (k < 0) = true := by simpa using hk0
    go_enter Tryd.func25, Tryd.ntmps25
    go_wp2_with fail
    refine CL.out.mono ?_
    rintro e w1 ⟨v, rfl, hs, hb⟩
    obtain ⟨hm, a, cap, rfl, -⟩ := hs
    go_wp2
    go_ret2
    rw [HF.out]
    exact ⟨rfl, hb⟩
  · obtain ⟨K, rfl⟩ := Int.eq_ofNat_of_zero_le (show 0 ≤ k by omega)
    have t0 : decide ((K : Int) < 0) = false := by simp
    by_cases hK : K < (MM.els x.toNat).length
    · have HF := Lib.hid (show optV (pickOf (MM.els x.toNat) (K : Int)) = .tuple #[.int .i64 (((MM.els x.toNat).map fun k : Nat => (k : Int))[K]?.getD 0), .bool true] by
        unfold pickOf
        rw [if_pos (by omega), Int.toNat_natCast, List.getElem?_map, List.getElem?_eq_getElem hK]; rfl)
      go_enter Tryd.func25, Tryd.ntmps25
      go_wp2_with fail
      refine CL.out.mono ?_
      rintro e w1 ⟨v, rfl, hs, hb⟩
      obtain ⟨hm, a, cap, rfl, hc⟩ := hs
      rw [List.length_map] at hm hc ⊢
      obtain ⟨b, off, rfl, hb1, hc1⟩ := hc (by omega)
      have hck := hc1 K hK
      generalize ((MM.els x.toNat).map fun k : Nat => (k : Int))[K]?.getD 0 = z at *
      clear hc hc1
      go_wp2
      go_ret2
      rw [HF.out]
      exact ⟨rfl, hb⟩
    · have HF := Lib.hid (show optV (pickOf (MM.els x.toNat) (K : Int)) = .tuple #[.int .i64 0, .bool false] by rw [pickOf_none (.inr (by omega))]; rfl)
      go_enter Tryd.func25, Tryd.ntmps25
      go_wp2_with fail
      refine CL.out.mono ?_
      rintro e w1 ⟨v, rfl, hs, hb⟩
      obtain ⟨hm, a, cap, rfl, -⟩ := hs
      rw [List.length_map] at hm ⊢
      go_wp2
      go_ret2
      rw [HF.out]
      exact ⟨rfl, hb⟩
end Go.Proofs.YtacfamelnaocmaaDoor
