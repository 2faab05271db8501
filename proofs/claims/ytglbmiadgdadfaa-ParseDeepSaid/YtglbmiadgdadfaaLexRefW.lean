/- The document's answers for layer 4: classes of bytes, Num, Reg, Kept. -/
import Derived.Test.YtglbmiadgdadfaaLexWord
namespace Go.Proofs.Ytglbmiadgdadfaa
open Go.RowKit

attribute [local go_sem] Oper.semAt_some
namespace LX
theorem cls_letter {z : Int} : cls z = 4 ↔ (97 ≤ z ∧ z ≤ 122) ∨ (65 ≤ z ∧ z ≤ 90) := by
  unfold cls; repeat' split
  all_goals omega
theorem cls_digit {z : Int} : cls z = 5 ↔ 48 ≤ z ∧ z ≤ 57 := by
  unfold cls; repeat' split
  all_goals omega
theorem cls_under {z : Int} : cls z = 6 ↔ z = 95 := by
  unfold cls; repeat' split
  all_goals omega
theorem inW_iff {z : Int} : inW (cls z) = (decide (cls z = 4) || decide (cls z = 5) || decide (z = 95)) := by
  unfold inW
  rw [Bool.eq_iff_iff]
  simp [cls_under]
end LX
end Go.Proofs.Ytglbmiadgdadfaa
