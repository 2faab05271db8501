/- marks.powerFits, marks.nextSubset. -/
import Derived.BigQuiet
import Derived.Deep.QuietTactic
import Derived.Lib.Strings
import Derived.Lib.Slices
import Derived.Lib.Small
import Derived.Lib.Walk
import Derived.Lib.BitFns
import Derived.Lib.ItoaNum
import Derived.Test.YtacfamelnaocmaaDoorMarksOf
namespace Go.Proofs.YtacfamelnaocmaaDoor
open Go.RowKit Go.Shelf

/-- The subset that follows. -/
def nextSub (s x : Int) : Int := bits BinOp.and IntKind.u64 (IntKind.u64.wrap (bits BinOp.or IntKind.u64 x (bits BinOp.xor IntKind.u64 IntKind.u64.max s) + 1)) s

set_option maxHeartbeats 400000 in
theorem nextSubset_any (s x : Int) (w : World) :
    Calls Tryd.prog 38 #[.int .u64 s, .int .u64 x] w fun e w' => e = .returned (.int .u64 (nextSub s x)) ∧ w = w' := by
  have hsg : ¬ (IntKind.u64.signed = true) := by decide
  go_enter Tryd.func38, Tryd.ntmps38
  go_wp2
  go_ret
  exact ⟨rfl, rfl⟩

theorem len8_size : Lib.len8tab.size = 256 := by decide +kernel
theorem len8_all : ∀ n : Fin Lib.len8tab.size, Lib.len8tab[n.val].toNat = Lib.bitLen n.val := by decide +kernel
theorem len8_at (n : Nat) (h : n < Lib.len8tab.size) : Lib.len8tab[n].toNat = Lib.bitLen n := len8_all ⟨n, h⟩

set_option maxRecDepth 100000 in
set_option maxHeartbeats 1000000 in
theorem len64_any (x : Int) (h0 : 0 ≤ x) (h1 : x ≤ 65536) (w : World) :
    Calls Tryd.prog 45 #[.int .u64 x] w fun e w' => e = .returned (.int .i64 (Lib.bitLen x.toNat)) ∧ w = w' := by
  have hsz := len8_size
  go_enter Tryd.func45, Tryd.ntmps45
  go_wp2
  all_goals go_ret
  all_goals refine ⟨congrArg Ending.returned (congrArg (Value.int IntKind.i64) ?_), rfl⟩
  · rw [len8_at]
    have s := Lib.bitLen_shift16 x.toNat (by omega) (by omega)
    have b := Lib.bitLen_le (x / 65536).toNat 8 (by decide) (by omega)
    rw [show x.toNat / 65536 = (x / 65536).toNat by omega] at s
    unfold wrap64
    omega
  · rw [len8_at]
    have s := Lib.bitLen_shift8 x.toNat (by omega) (by omega)
    have b := Lib.bitLen_le (x / 256).toNat 8 (by decide) (by omega)
    rw [show x.toNat / 256 = (x / 256).toNat by omega] at s
    unfold wrap64
    omega
  · rw [len8_at]
    have b := Lib.bitLen_le x.toNat 8 (by decide) (by omega)
    unfold wrap64
    omega

theorem blen_any (x : Int) (h0 : 0 ≤ x) (h1 : x ≤ 65536) (w : World) :
    Calls Tryd.prog 43 #[.int .u64 x] w fun e w' => e = .returned (.int .i64 (Lib.bitLen x.toNat)) ∧ w = w' := by
  have H := Lib.hid (len64_any x h0 h1 w)
  go_enter Tryd.func43, Tryd.ntmps43
  go_wp2_with fail
  refine H.out.mono ?_
  rintro e w' ⟨rfl, rfl⟩
  go_wp2
  go_ret
  exact ⟨rfl, rfl⟩

/-- 2 to the power n is at most m. -/
def fits (n m : Int) : Bool := decide (0 < m) && decide (n < (Lib.bitLen m.toNat : Int))

theorem bitLen_iff (n m : Nat) (h0 : m ≠ 0) (h : m < 2 ^ 64) : n < Lib.bitLen m ↔ 2 ^ n ≤ m := by
  obtain ⟨a, b, c⟩ := Lib.bitLenAux_bounds 64 m h h0
  unfold Lib.bitLen
  constructor
  · intro hn
    exact Nat.le_trans (Nat.pow_le_pow_right (by omega) (by omega)) b
  · intro hn
    exact (Nat.pow_lt_pow_iff_right (by omega : 1 < 2)).1 (Nat.lt_of_le_of_lt hn c)

set_option maxHeartbeats 400000 in
theorem powerFits_any (n m : Int) (hm : m ≤ 65536) (hm0 : -9223372036854775808 ≤ m) (w : World) :
    Calls Tryd.prog 37 #[.int .i64 n, .int .i64 m] w fun e w' => e = .returned (.bool (fits n m)) ∧ w = w' := by
  by_cases h : 0 < m
  · have t0 : decide (0 < m) = true := by simpa using h
    have H := Lib.hid (blen_any m (by omega) hm w)
    have hf := Lib.hid (show fits n m = decide (n < (Lib.bitLen m.toNat : Int)) by simp [fits, h])
    go_enter Tryd.func37, Tryd.ntmps37
    go_wp2_with fail
    refine H.out.mono ?_
    rintro e w' ⟨rfl, rfl⟩
    go_wp2
    go_ret
    rw [hf.out]
    exact ⟨rfl, rfl⟩
  · have t0 : decide (0 < m) = false := by simpa using h
    have hf := Lib.hid (show fits n m = false by simp [fits, h])
    go_enter Tryd.func37, Tryd.ntmps37
    go_wp2
    go_ret
    rw [hf.out]
    exact ⟨rfl, rfl⟩
end Go.Proofs.YtacfamelnaocmaaDoor
