/- lex.classOf and the predicates on classes. -/
import Derived.WalkKit
import Derived.Lib.Hide
import Derived.Test.YtglbmiadgdadfaaProg
import Derived.Test.YtglbmiadgdadfaaLexMath
namespace Go.Proofs.Ytglbmiadgdadfaa
open Go.RowKit

attribute [local go_sem] Oper.semAt_some
theorem ret_num {k : IntKind} {a b : Int} (h : a = b) : Ending.returned (.int k a) = .returned (.int k b) := by rw [h]

set_option maxRecDepth 100000 in
set_option maxHeartbeats 4000000 in
theorem classOf_any (z : Int) (h0 : 0 ≤ z) (h1 : z ≤ 255) (w : World) : Calls Try.prog 56 #[.int .u8 z] w fun e w' => e = .returned (.int .u8 (LX.cls z)) ∧ w = w' := by
  go_enter Try.func56, Try.ntmps56
  go_wp2
  all_goals
    go_ret
    refine ⟨ret_num ?_, rfl⟩
    try simp only [beq_eq_false_iff_ne, ne_eq, beq_iff_eq] at *
    unfold LX.cls
    repeat' split
    all_goals omega

theorem isBlank_any (c : Int) (w : World) : Calls Try.prog 54 #[.int .u8 c] w fun e w' => e = .returned (.bool (LX.inB c)) ∧ w = w' := by
  go_enter Try.func54, Try.ntmps54
  go_wp2
  go_ret
  exact ⟨rfl, rfl⟩
theorem inComment_any (c : Int) (w : World) : Calls Try.prog 55 #[.int .u8 c] w fun e w' => e = .returned (.bool (LX.inC c)) ∧ w = w' := by
  go_enter Try.func55, Try.ntmps55
  go_wp2
  go_ret
  exact ⟨rfl, rfl⟩
theorem inNumber_any (c : Int) (w : World) : Calls Try.prog 58 #[.int .u8 c] w fun e w' => e = .returned (.bool (LX.inN c)) ∧ w = w' := by
  go_enter Try.func58, Try.ntmps58
  go_wp2
  go_ret
  exact ⟨rfl, rfl⟩
set_option maxHeartbeats 400000 in
theorem inWord_any (c : Int) (w : World) : Calls Try.prog 57 #[.int .u8 c] w fun e w' => e = .returned (.bool (LX.inW c)) ∧ w = w' := by
  go_enter Try.func57, Try.ntmps57
  go_wp2
  all_goals
    go_ret
    first | exact ⟨rfl, rfl⟩ | (subst_vars; exact ⟨rfl, rfl⟩)
end Go.Proofs.Ytglbmiadgdadfaa
