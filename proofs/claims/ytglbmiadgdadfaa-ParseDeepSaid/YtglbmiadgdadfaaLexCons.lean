/- lex.consists. -/
import Derived.Test.YtglbmiadgdadfaaLexSkip
namespace Go.Proofs.Ytglbmiadgdadfaa
open Go.RowKit

attribute [local go_sem] Oper.semAt_some
namespace LX
/-- There is a byte, and the classes of all fit. -/
def cons (p : Int → Bool) (L : List UInt8) : Bool := !L.isEmpty && L.all fun b => p (cls (b.toNat : Int))
theorem run_zero_all (p : Int → Bool) (L : List UInt8) : run p L 0 = L.length ↔ L.all (fun b => p (cls (b.toNat : Int))) = true := by
  unfold run
  rw [List.drop_zero, Nat.zero_add]
  induction L with
  | nil => simp
  | cons b L ih =>
    rw [List.takeWhile_cons, List.all_cons]
    by_cases hp : p (cls (b.toNat : Int)) = true
    · rw [if_pos hp, List.length_cons, List.length_cons, hp, Bool.true_and, ← ih]; omega
    · rw [if_neg hp]; simp [hp]
theorem cons_run (p : Int → Bool) (L : List UInt8) : cons p L = (decide (0 < L.length) && decide (run p L 0 = L.length)) := by
  unfold cons
  rw [Bool.eq_iff_iff]
  simp only [Bool.and_eq_true, decide_eq_true_eq]
  rw [run_zero_all]
  cases L <;> simp
end LX

set_option maxRecDepth 100000 in
set_option maxHeartbeats 1000000 in
theorem consWord_any (s : ByteArray) (w : World) (hm : s.size ≤ maxLen) :
    Calls Try.prog 72 #[.string s, .func (.func 57) #[] #[]] w fun e w' => e = .returned (.bool (LX.cons LX.inW (bsOf s))) ∧ Below w.heap.size w w' := by
  have hle := LX.run_le LX.inW (bsOf s) 0 (Nat.zero_le _)
  rw [bsOf_length] at hle
  have hcons := LX.cons_run LX.inW (bsOf s)
  rw [bsOf_length] at hcons
  have hi : InAt (w.alloc (.cells #[.string s, .int .i64 0] 81)) w.heap.size s 0 [] 81 := heap_alloc_new w _
  have CT := Lib.hid (takeWord_any _ hi (Nat.zero_le _) hm)
  have hB : Below w.heap.size w (w.alloc (.cells #[.string s, .int .i64 0] 81)) := (Below.refl _ w).alloc (Nat.le_refl _) _
  replace hB := Lib.hid hB
  replace hi := Lib.hid hi
  by_cases hr : LX.run LX.inW (bsOf s) 0 = 0
  · have hx : (s.extract 0 0).toList = [] := by rw [cut_extract]; unfold LX.cut; simp
    rw [hr] at CT hcons
    have hcf : LX.cons LX.inW (bsOf s) = false := by rw [hcons]; simp; omega
    rw [hcf]
    clear hcons hcf hr hle
    generalize s.extract 0 0 = x at *
    have hx' : (!x.toList.isEmpty) = false := by rw [hx]; rfl
    go_enter Try.func72, Try.ntmps72
    go_wp2_with fail
    refine CT.out.mono ?_
    rintro e w1 ⟨rfl, h1⟩
    go_wp2
    go_ret
    exact ⟨rfl, hB.out.trans (h1.below (Nat.le_refl _))⟩
  · have hx : (s.extract 0 (LX.run LX.inW (bsOf s) 0)).toList.isEmpty = false := by
      rw [cut_extract]; unfold LX.cut
      rw [List.isEmpty_eq_false_iff]
      intro he
      have := congrArg List.length he
      rw [List.length_take, List.length_drop, bsOf_length, List.length_nil] at this
      omega
    have hcf : LX.cons LX.inW (bsOf s) = (((LX.run LX.inW (bsOf s) 0 : Nat) : Int) == (s.size : Int)) := by
      rw [hcons, Bool.eq_iff_iff]; simp; omega
    rw [hcf]
    clear hcons hcf
    generalize LX.run LX.inW (bsOf s) 0 = r at *
    generalize s.extract 0 r = x at *
    have hx' : (!x.toList.isEmpty) = true := by rw [hx]; rfl
    go_enter Try.func72, Try.ntmps72
    go_wp2_with fail
    refine CT.out.mono ?_
    rintro e w1 ⟨rfl, h1⟩
    have hi1 := hi.out.put h1
    go_wp2_with fail
    refine (done_any w1 hi1).mono ?_
    rintro e w2 ⟨rfl, h2⟩
    go_wp2
    go_ret
    exact ⟨rfl, (hB.out.trans (h1.below (Nat.le_refl _))).trans h2.below⟩

set_option maxRecDepth 100000 in
set_option maxHeartbeats 1000000 in
theorem consNumber_any (s : ByteArray) (w : World) (hm : s.size ≤ maxLen) :
    Calls Try.prog 72 #[.string s, .func (.func 58) #[] #[]] w fun e w' => e = .returned (.bool (LX.cons LX.inN (bsOf s))) ∧ Below w.heap.size w w' := by
  have hle := LX.run_le LX.inN (bsOf s) 0 (Nat.zero_le _)
  rw [bsOf_length] at hle
  have hcons := LX.cons_run LX.inN (bsOf s)
  rw [bsOf_length] at hcons
  have hi : InAt (w.alloc (.cells #[.string s, .int .i64 0] 81)) w.heap.size s 0 [] 81 := heap_alloc_new w _
  have CT := Lib.hid (takeNumber_any _ hi (Nat.zero_le _) hm)
  have hB : Below w.heap.size w (w.alloc (.cells #[.string s, .int .i64 0] 81)) := (Below.refl _ w).alloc (Nat.le_refl _) _
  replace hB := Lib.hid hB
  replace hi := Lib.hid hi
  by_cases hr : LX.run LX.inN (bsOf s) 0 = 0
  · have hx : (s.extract 0 0).toList = [] := by rw [cut_extract]; unfold LX.cut; simp
    rw [hr] at CT hcons
    have hcf : LX.cons LX.inN (bsOf s) = false := by rw [hcons]; simp; omega
    rw [hcf]
    clear hcons hcf hr hle
    generalize s.extract 0 0 = x at *
    have hx' : (!x.toList.isEmpty) = false := by rw [hx]; rfl
    go_enter Try.func72, Try.ntmps72
    go_wp2_with fail
    refine CT.out.mono ?_
    rintro e w1 ⟨rfl, h1⟩
    go_wp2
    go_ret
    exact ⟨rfl, hB.out.trans (h1.below (Nat.le_refl _))⟩
  · have hx : (s.extract 0 (LX.run LX.inN (bsOf s) 0)).toList.isEmpty = false := by
      rw [cut_extract]; unfold LX.cut
      rw [List.isEmpty_eq_false_iff]
      intro he
      have := congrArg List.length he
      rw [List.length_take, List.length_drop, bsOf_length, List.length_nil] at this
      omega
    have hcf : LX.cons LX.inN (bsOf s) = (((LX.run LX.inN (bsOf s) 0 : Nat) : Int) == (s.size : Int)) := by
      rw [hcons, Bool.eq_iff_iff]; simp; omega
    rw [hcf]
    clear hcons hcf
    generalize LX.run LX.inN (bsOf s) 0 = r at *
    generalize s.extract 0 r = x at *
    have hx' : (!x.toList.isEmpty) = true := by rw [hx]; rfl
    go_enter Try.func72, Try.ntmps72
    go_wp2_with fail
    refine CT.out.mono ?_
    rintro e w1 ⟨rfl, h1⟩
    have hi1 := hi.out.put h1
    go_wp2_with fail
    refine (done_any w1 hi1).mono ?_
    rintro e w2 ⟨rfl, h2⟩
    go_wp2
    go_ret
    exact ⟨rfl, (hB.out.trans (h1.below (Nat.le_refl _))).trans h2.below⟩
end Go.Proofs.Ytglbmiadgdadfaa
