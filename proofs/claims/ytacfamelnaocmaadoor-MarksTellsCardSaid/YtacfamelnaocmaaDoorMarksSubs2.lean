/- marks.Subsets, where it answers. -/
import Derived.Deep.LoopGhost
import Derived.Test.YtacfamelnaocmaaDoorMarksSubs
namespace Go.Proofs.YtacfamelnaocmaaDoor
open Go.RowKit Go.Shelf

def slLen : Value → Nat
  | .slice _ n _ => n
  | _ => 0

theorem wrap_pow (L : Nat) (h : L ≤ 16) : wrap64 (2 ^ L) = ((2 ^ L : Nat) : Int) := by
  have h2 : 2 ^ L ≤ 2 ^ 16 := Nat.pow_le_pow_right (by decide) h
  have e : ((2 : Int) ^ L) = ((2 ^ L : Nat) : Int) := by simp
  rw [e]
  generalize 2 ^ L = p at *
  unfold wrap64
  omega

set_option maxHeartbeats 1000000 in
theorem subsets_ok (x m : Int) (h0 : 0 ≤ x) (h1 : x < 18446744073709551616) (hm : m ≤ 65536) (L N : Nat) (hL : (MM.els x.toNat).length = L) (hN : 2 ^ L = N) (hfit : (N : Int) ≤ m) (w : World) (hT : Tab w) :
    Calls Tryd.prog 26 #[.int .u64 x, .int .i64 m] w fun e w' => ∃ v, e = .returned (.tuple #[v, .int .i64 0]) ∧ w'.ownsRow w.heap.size 23 1 v N (subsV x.toNat N) ∧ Below w.heap.size w w' := by
  obtain ⟨i0, hi, hz0, hz1, hz2⟩ := info_parts infoSet
  have hlen := len_any x h0 h1 w hT
  have hN0 := Nat.two_pow_pos L
  rw [hN] at hN0
  have hf : fits (lenOf (MM.els x.toNat)) m = true := by rw [fits_iff x m hm, hL, hN]; exact decide_eq_true hfit
  have H2 : ∀ w', Calls Tryd.prog 37 #[.int .i64 (lenOf (MM.els x.toNat)), .int .i64 m] w' fun e w'' => e = .returned (.bool true) ∧ w' = w'' := by
    intro w'; have := powerFits_any (lenOf (MM.els x.toNat)) m hm (by omega) w'; rwa [hf] at this
  have hlo : lenOf (MM.els x.toNat) = (L : Int) := by unfold lenOf; rw [hL]
  rw [hlo] at hlen H2
  have hL16 : L ≤ 16 := by
    have h2 : 2 ^ L ≤ 2 ^ 16 := by rw [hN]; omega
    exact (Nat.pow_le_pow_iff_right (by decide)).1 h2
  have Hlen := Lib.hid hlen
  have HH := Lib.hid H2
  have HL := Lib.hid hL
  have HW := Lib.hid (wrap_pow L hL16)
  have hN16 : N ≤ 65536 := by omega
  have HN := Lib.hid hN
  have HF := Lib.hid (MM.pdep_full x.toNat (by omega))
  have HP := Lib.hid (fun k (hk : k + 1 < 2 ^ L) => nextSub_pdep x h0 h1 k (by rw [HL.out]; exact hk))
  have HM := Lib.hid (fun k (hk : k + 1 < 2 ^ L) => MM.pdep_mono (MM.els x.toNat) (MM.els_sorted _) k (2 ^ L - 1) (by omega) (by rw [HL.out]; omega))
  clear hlen H2 hL hlo hf hN hfit
  go_enter Tryd.func26, Tryd.ntmps26
  go_wp2_with fail
  refine Hlen.out.mono ?_
  rintro e w1 ⟨rfl, hb1⟩
  go_wp2_with fail
  refine (HH.out _).mono ?_
  rintro e w2 ⟨rfl, rfl⟩
  have hbs := hb1.size
  go_wp2_with (at_make; refine wpList_make_own _ rfl _ _ 39 rfl w.heap.size 23 i0 (.int .u64 0) 1 Tryd.underlying39 hi hz0 hz1 .i64 .i64 _ N rfl rfl (by rw [HW.out, HN.out]) (by rw [hz2]; omega) (by unfold maxLen; omega) hbs ?_; intro w0 hown0 hgrow0)
  go_loopw [7, 8] (fun v sub wr => ∃ k : Nat, k < N ∧ sub = subV x.toNat k ∧ wr.ownsRow w.heap.size 23 1 v k (subsV x.toNat k) ∧ Below w.heap.size w wr) (fun v _ _ => N - slLen v)
  case atStart => exact ⟨0, hN0, by simp [subV, MM.pdep_zero], hown0, hb1.grown hgrow0 hb1.size (fun k h => by cases h)⟩
  case round =>
    obtain ⟨k, hk, rfl, hown, hB⟩ := hrel
    have hsz := hB.size
    obtain ⟨y, hy⟩ : ∃ y : Int, y = (MM.pdep (MM.els x.toNat) k : Int) := ⟨_, rfl⟩
    have HY := Lib.hid hy
    have hsv : subV x.toNat k = .int .u64 y := by rw [hy]; rfl
    rw [hsv]
    clear hy hsv
    obtain ⟨a0, c0, hv⟩ := ownsRow_slice hown
    rw [hv] at hown ⊢
    clear hv
    by_cases hlast : k + 1 = N
    · have ht : (y == x) = true := by
        rw [HY.out, show k = 2 ^ L - 1 by rw [HN.out]; omega, ← HL.out, HF.out]; simp; omega
      have HLast := Lib.hid hlast
      clear hlast
      go_wp2_with (at_builtin; refine wpList_append_own _ rfl _ _ 39 rfl w.heap.size 23 i0 (.int .u64 0) 1 8 Tryd.underlying39 hi hz0 hz1 hz2 rfl (by decide) _ _ _ rfl (hown.alloc _) ⟨wr.heap.size, 0, none⟩ 1 1 [.int .u64 y] rfl rfl (cell_one_new _ _ _) (by intro u hu; simp at hu; subst hu; rfl) (by unfold maxLen; omega) (by omega) (by simp; omega) ?_; intro v1 w2 hown1 hgrow1 _)
      go_ret2
      refine ⟨_, rfl, ?_, (hB.alloc hsz _).grown hgrow1 (by simp; omega) (fun j hj => (hown.lt j hj).1)⟩
      rw [← HLast.out, subsV_snoc, show subV x.toNat k = .int .u64 y by rw [HY.out]; rfl]
      exact hown1
    · have hk1 : k + 1 < N := by omega
      have ht : (y == x) = false := by
        have h3 := HM.out k (by rw [HN.out]; exact hk1)
        have h4 := HF.out
        rw [HL.out] at h4
        rw [h4] at h3
        rw [HY.out]; simp; omega
      have hnx := HP.out k (by rw [HN.out]; exact hk1)
      rw [← HY.out] at hnx
      have HX := Lib.hid hnx
      clear hnx hlast
      go_wp2_with (at_builtin; refine wpList_append_own _ rfl _ _ 39 rfl w.heap.size 23 i0 (.int .u64 0) 1 8 Tryd.underlying39 hi hz0 hz1 hz2 rfl (by decide) _ _ _ rfl (hown.alloc _) ⟨wr.heap.size, 0, none⟩ 1 1 [.int .u64 y] rfl rfl (cell_one_new _ _ _) (by intro u hu; simp at hu; subst hu; rfl) (by unfold maxLen; omega) (by omega) (by simp; omega) ?_; intro v1 w2 hown1 hgrow1 _; obtain ⟨a1, c1, hv1⟩ := ownsRow_slice hown1; rw [hv1] at hown1 ⊢; clear hv1)
      refine (nextSubset_any x y _).mono ?_
      rintro e w3 ⟨rfl, rfl⟩
      go_wp2
      go_roundw
      case rel =>
        refine ⟨k + 1, hk1, by rw [HX.out]; rfl, ?_, (hB.alloc hsz _).grown hgrow1 (by simp; omega) (fun j hj => (hown.lt j hj).1)⟩
        rw [subsV_snoc, show subV x.toNat k = .int .u64 y by rw [HY.out]; rfl]
        exact hown1
      case measure => simp [slLen]; omega
end Go.Proofs.YtacfamelnaocmaaDoor
