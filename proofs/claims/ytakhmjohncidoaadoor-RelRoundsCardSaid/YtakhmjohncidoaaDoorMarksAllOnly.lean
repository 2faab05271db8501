/- marks.All, at a program without marks.Of. -/
import Derived.Test.YtakhmjohncidoaaDoorMarksNext
namespace Go.Proofs.YtakhmjohncidoaaDoor
open Go.RowKit Go.Shelf

theorem shl1_u64 (z : Int) (h0 : 0 ≤ z) (h1 : z < 64) : IntKind.u64.wrap (2 ^ z.toNat) = ((2 ^ z.toNat : Nat) : Int) := by
  rw [IntKind.wrap_u64]
  have h : 2 ^ z.toNat < 2 ^ 64 := Nat.pow_lt_pow_right (by omega) (by omega)
  have e : ((2 : Int) ^ z.toNat) = ((2 ^ z.toNat : Nat) : Int) := by simp
  rw [e]
  generalize 2 ^ z.toNat = p at *
  omega
/-- The integers below n, as a set. -/
def allOf (n : Int) : Int := if n < 1 then 0 else if 64 ≤ n then 18446744073709551615 else ((2 ^ n.toNat - 1 : Nat) : Int)

theorem allOf_bd (n : Int) : 0 ≤ allOf n ∧ allOf n < 18446744073709551616 := by
  unfold allOf
  split
  · omega
  · split
    · omega
    · have h : 2 ^ n.toNat < 2 ^ 64 := Nat.pow_lt_pow_right (by omega) (by omega)
      generalize 2 ^ n.toNat = p at *
      omega

theorem run_shl_far (P : Program) (n : Int) (hn : 64 ≤ n) (w : World) : (Op.shift BinOp.shl IntKind.u64 1 IntKind.i64 n).run P w = .ok (.int .u64 0) w := by
  unfold Op.shift
  rw [if_neg (by omega)]
  have : min n.toNat IntKind.u64.bits = 64 := by show min n.toNat 64 = 64; omega
  rw [this]
  rfl

set_option maxHeartbeats 400000 in
theorem all_any (n : Int) (w : World) :
    Calls Tryd.prog 46 #[.int .i64 n] w fun e w' => e = .returned (.int .u64 (allOf n)) ∧ w = w' := by
  by_cases h : n < 1
  · have hf := Lib.hid (show allOf n = 0 by simp [allOf, h])
    go_enter Tryd.func46, Tryd.ntmps46
    go_wp2
    go_ret
    rw [hf.out]
    exact ⟨rfl, rfl⟩
  · by_cases h2 : 64 ≤ n
    · have hf := Lib.hid (show allOf n = 18446744073709551615 by simp [allOf, h, h2])
      have hsh := run_shl_far Tryd.prog n h2
      go_enter Tryd.func46, Tryd.ntmps46
      go_wp2
      go_ret
      rw [hf.out]
      exact ⟨rfl, rfl⟩
    · have hf := Lib.hid (show allOf n = ((2 ^ n.toNat - 1 : Nat) : Int) by simp [allOf, h, h2])
      have he := Lib.hid (shl1_u64 n (by omega) (by omega))
      have hp : 2 ^ n.toNat < 2 ^ 64 := Nat.pow_lt_pow_right (by omega) (by omega)
      have hp0 : 0 < 2 ^ n.toNat := Nat.two_pow_pos _
      have Hp := Lib.hid (And.intro hp hp0)
      clear hp hp0
      go_enter Tryd.func46, Tryd.ntmps46
      go_wp2
      go_ret
      refine ⟨?_, rfl⟩
      rw [hf.out]
      have hp := Hp.out
      have he := he.out
      refine congrArg (fun z => Ending.returned (Value.int IntKind.u64 z)) ?_
      rw [he]
      generalize 2 ^ n.toNat = p at hp
      rw [IntKind.wrap_u64]
      omega
end Go.Proofs.YtakhmjohncidoaaDoor
