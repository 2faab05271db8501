/- lex.classOf and the predicates on classes. -/
import Derived.WalkKit
import Derived.Lib.Hide
import Derived.Test.YtijipgiclkkfhaaProg
import Derived.Test.YtijipgiclkkfhaaLexMath
namespace Go.Proofs.Ytijipgiclkkfhaa
open Go.RowKit

attribute [local go_sem] Oper.semAt_some
theorem ret_num {k : IntKind} {a b : Int} (h : a = b) : Ending.returned (.int k a) = .returned (.int k b) := by rw [h]

set_option maxRecDepth 100000 in
set_option maxHeartbeats 4000000 in
theorem classOf_any (z : Int) (h0 : 0 ≤ z) (h1 : z ≤ 255) (w : World) : Calls Try.prog 29 #[.int .u8 z] w fun e w' => e = .returned (.int .u8 (LX.cls z)) ∧ w = w' := by
  go_enter Try.func29, Try.ntmps29
  go_wp2
  all_goals
    go_ret
    refine ⟨ret_num ?_, rfl⟩
    try simp only [beq_eq_false_iff_ne, ne_eq, beq_iff_eq] at *
    unfold LX.cls
    repeat' split
    all_goals omega

theorem isBlank_any (c : Int) (w : World) : Calls Try.prog 60 #[.int .u8 c] w fun e w' => e = .returned (.bool (LX.inB c)) ∧ w = w' := by
  go_enter Try.func60, Try.ntmps60
  go_wp2
  go_ret
  exact ⟨rfl, rfl⟩
theorem inComment_any (c : Int) (w : World) : Calls Try.prog 61 #[.int .u8 c] w fun e w' => e = .returned (.bool (LX.inC c)) ∧ w = w' := by
  go_enter Try.func61, Try.ntmps61
  go_wp2
  go_ret
  exact ⟨rfl, rfl⟩
theorem inNumber_any (c : Int) (w : World) : Calls Try.prog 31 #[.int .u8 c] w fun e w' => e = .returned (.bool (LX.inN c)) ∧ w = w' := by
  go_enter Try.func31, Try.ntmps31
  go_wp2
  go_ret
  exact ⟨rfl, rfl⟩
set_option maxHeartbeats 400000 in
theorem inWord_any (c : Int) (w : World) : Calls Try.prog 28 #[.int .u8 c] w fun e w' => e = .returned (.bool (LX.inW c)) ∧ w = w' := by
  go_enter Try.func28, Try.ntmps28
  go_wp2
  all_goals
    go_ret
    first | exact ⟨rfl, rfl⟩ | (subst_vars; exact ⟨rfl, rfl⟩)
end Go.Proofs.Ytijipgiclkkfhaa
