/- lex.fault, lex.token. -/
import Derived.Deep.RegionWith
import Derived.Deep.DeepCutAuto
import Derived.Test.YtglbmiadgdadfaaLexName
namespace Go.Proofs.Ytglbmiadgdadfaa
open Go.RowKit

attribute [local go_sem] Oper.semAt_some

set_option maxRecDepth 100000 in
set_option maxHeartbeats 2000000 in
theorem fault_word (s : ByteArray) (i : Int) (w : World) :
    Calls Try.prog 60 #[.agg #[.int .u8 1, .string s, .int .i64 i]] w fun e w' => e = .returned (.int .i64 ((if 16 < s.size then 42 else 0 : Nat) : Int)) ∧ Below w.heap.size w w' := by
  by_cases h : 16 < s.size
  · have t1 : decide (16 < (s.size : Int)) = true := by simp; omega
    rw [if_pos h]
    replace h := Lib.hid h
    go_enter Try.func60, Try.ntmps60
    go_wp2
    go_ret
    exact ⟨rfl, (Below.refl _ _).alloc (Nat.le_refl _) _⟩
  · have t1 : decide (16 < (s.size : Int)) = false := by simp; omega
    rw [if_neg h]
    replace h := Lib.hid h
    go_enter Try.func60, Try.ntmps60
    go_wp2
    go_ret
    exact ⟨rfl, (Below.refl _ _).alloc (Nat.le_refl _) _⟩
set_option maxRecDepth 100000 in
set_option maxHeartbeats 2000000 in
theorem fault_num (s : ByteArray) (i : Int) (w : World) (hm : s.size ≤ maxLen) :
    Calls Try.prog 60 #[.agg #[.int .u8 2, .string s, .int .i64 i]] w fun e w' => e = .returned (.int .i64 ((if LX.numOk (bsOf s) then 0 else 41 : Nat) : Int)) ∧ Below w.heap.size w w' := by
  have CN := Lib.hid (fun W => num_any s W hm)
  have hB : Below w.heap.size w (w.alloc (.cells #[.int .u8 2, .string s, .int .i64 i] 61)) := (Below.refl _ w).alloc (Nat.le_refl _) _
  unfold LX.numV at CN
  cases h : LX.numOk (bsOf s)
  · rw [h] at CN
    replace h := Lib.hid h
    rw [if_neg (by simp)] at CN ⊢
    go_enter Try.func60, Try.ntmps60
    go_wp2_with fail
    refine (CN.out _).mono ?_
    rintro e w1 ⟨rfl, h1⟩
    go_wp2
    go_ret
    exact ⟨rfl, hB.trans (h1.mono (by simp))⟩
  · rw [h] at CN
    replace h := Lib.hid h
    rw [if_pos rfl] at CN ⊢
    go_enter Try.func60, Try.ntmps60
    go_wp2_with fail
    refine (CN.out _).mono ?_
    rintro e w1 ⟨rfl, h1⟩
    go_wp2
    go_ret
    exact ⟨rfl, hB.trans (h1.mono (by simp))⟩
set_option maxRecDepth 100000 in
set_option maxHeartbeats 2000000 in
theorem fault_sign (s : ByteArray) (i : Int) (w : World) :
    Calls Try.prog 60 #[.agg #[.int .u8 3, .string s, .int .i64 i]] w fun e w' => e = .returned (.int .i64 0) ∧ Below w.heap.size w w' := by
  go_enter Try.func60, Try.ntmps60
  go_wp2
  go_ret
  exact ⟨rfl, (Below.refl _ _).alloc (Nat.le_refl _) _⟩
end Go.Proofs.Ytglbmiadgdadfaa
