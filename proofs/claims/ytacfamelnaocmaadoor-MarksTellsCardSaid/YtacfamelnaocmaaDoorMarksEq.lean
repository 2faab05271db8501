/- The laws' own comparisons of two lists. -/
import Derived.BigQuiet
import Derived.Deep.QuietTactic
import Derived.Test.YtacfamelnaocmaaDoorMarksOf
namespace Go.Proofs.YtacfamelnaocmaaDoor
open Go.RowKit Go.Shelf

set_option maxHeartbeats 1000000 in
theorem ints_same (va vb : Value) (zs : List Int) (n₀ : Nat) (w : World) (ha : IntSl n₀ w va zs) (hb : IntSl n₀ w vb zs) :
    Calls Tryd.prog 15 #[va, vb] w fun e w' => e = .returned (.bool true) ∧ ∀ B, Below B w w' := by
  obtain ⟨hm, a, ca, rfl, ha⟩ := ha
  obtain ⟨-, b, cb, rfl, hb⟩ := hb
  unfold maxLen at hm
  have t0 : ((zs.length : Int) != (zs.length : Int)) = false := by simp
  go_enter Tryd.func15, Tryd.ntmps15
  go_wp2
  go_loopw [5, 13] (fun _ i wr => ∃ k : Nat, k ≤ zs.length ∧ i = .int .i64 k ∧ ∀ B, Below B w wr) (fun _ i _ => zs.length - (intOf i).toNat)
  case atStart => exact ⟨0, Nat.zero_le _, rfl, fun B => Below.refl B w⟩
  case round =>
    obtain ⟨k, hk, rfl, hB⟩ := hrel
    by_cases hlt : k < zs.length
    · obtain ⟨b1, o1, rfl, hb1, hc1⟩ := ha (by omega)
      obtain ⟨b2, o2, rfl, hb2, hc2⟩ := hb (by omega)
      have d1 := ((hB n₀).cell (p := ⟨b1, o1 + k, none⟩) hb1).trans (hc1 k hlt)
      have d2 := ((hB n₀).cell (p := ⟨b2, o2 + k, none⟩) hb2).trans (hc2 k hlt)
      generalize zs[k]?.getD 0 = z at d1 d2
      have HB := Lib.hid hB
      clear ha hb hc1 hc2 hB
      go_wp2
      go_quiet (fail)
      go_wp2
      go_roundw
      case rel => exact ⟨k + 1, by omega, by go_num, fun B => below_drewN (HB.out B) nq⟩
      case measure => simp [intOf]; omega
    · obtain rfl : k = zs.length := by omega
      have HB := Lib.hid hB
      clear hB
      go_wp2
      go_ret
      exact ⟨rfl, HB.out⟩

set_option maxHeartbeats 1000000 in
theorem sets_same (va vb : Value) (zs : List Int) (n₀ : Nat) (w : World) (ha : NumSl .u64 n₀ w va zs) (hb : NumSl .u64 n₀ w vb zs) :
    Calls Tryd.prog 28 #[va, vb] w fun e w' => e = .returned (.bool true) ∧ ∀ B, Below B w w' := by
  obtain ⟨hm, a, ca, rfl, ha⟩ := ha
  obtain ⟨-, b, cb, rfl, hb⟩ := hb
  unfold maxLen at hm
  have t0 : ((zs.length : Int) != (zs.length : Int)) = false := by simp
  go_enter Tryd.func28, Tryd.ntmps28
  go_wp2
  go_loopw [5, 13] (fun _ i wr => ∃ k : Nat, k ≤ zs.length ∧ i = .int .i64 k ∧ ∀ B, Below B w wr) (fun _ i _ => zs.length - (intOf i).toNat)
  case atStart => exact ⟨0, Nat.zero_le _, rfl, fun B => Below.refl B w⟩
  case round =>
    obtain ⟨k, hk, rfl, hB⟩ := hrel
    by_cases hlt : k < zs.length
    · obtain ⟨b1, o1, rfl, hb1, hc1⟩ := ha (by omega)
      obtain ⟨b2, o2, rfl, hb2, hc2⟩ := hb (by omega)
      have d1 := ((hB n₀).cell (p := ⟨b1, o1 + k, none⟩) hb1).trans (hc1 k hlt)
      have d2 := ((hB n₀).cell (p := ⟨b2, o2 + k, none⟩) hb2).trans (hc2 k hlt)
      generalize zs[k]?.getD 0 = z at d1 d2
      have HB := Lib.hid hB
      clear ha hb hc1 hc2 hB
      go_wp2
      go_quiet (fail)
      go_wp2
      go_roundw
      case rel => exact ⟨k + 1, by omega, by go_num, fun B => below_drewN (HB.out B) nq⟩
      case measure => simp [intOf]; omega
    · obtain rfl : k = zs.length := by omega
      have HB := Lib.hid hB
      clear hB
      go_wp2
      go_ret
      exact ⟨rfl, HB.out⟩

theorem is_any (k : Int) (w : World) :
    Calls Tryd.prog 29 #[.int .i64 k] w fun e w' => e = .returned (.func (.func 39) #[] #[.pointer (some ⟨w.heap.size, 0, none⟩)]) ∧ w.alloc (.cells #[.int .i64 k] 3) = w' := by
  go_enter Tryd.func29, Tryd.ntmps29
  go_wp2
  go_ret
  exact ⟨rfl, rfl⟩

theorem is1_some (k : Int) (b : Nat) (w : World) (hk : 0 ≤ k) (hc : w.cell? ⟨b, 0, none⟩ = some (.int .i64 k)) :
    Calls Tryd.prog 39 #[.int .i64 k, .bool true, .pointer (some ⟨b, 0, none⟩)] w fun e w' => e = .returned (.bool true) ∧ w = w' := by
  have t0 : decide (0 ≤ k) = true := by simpa using hk
  have t1 : (k == k) = true := by simp
  go_enter Tryd.func39, Tryd.ntmps39
  go_wp2
  go_ret
  exact ⟨rfl, rfl⟩

theorem is1_none (k : Int) (b : Nat) (w : World) (hk : k < 0) (hc : w.cell? ⟨b, 0, none⟩ = some (.int .i64 k)) :
    Calls Tryd.prog 39 #[.int .i64 0, .bool false, .pointer (some ⟨b, 0, none⟩)] w fun e w' => e = .returned (.bool true) ∧ w = w' := by
  have t0 : decide (0 ≤ k) = false := by simp; omega
  go_enter Tryd.func39, Tryd.ntmps39
  go_wp2
  go_ret
  exact ⟨rfl, rfl⟩
end Go.Proofs.YtacfamelnaocmaaDoor
