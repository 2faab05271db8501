/- A region whose order is open, walked once, where its calls may make memory but turn nothing that lay below. -/
import Derived.Deep.Quiet
import Derived.Deep.QuietTactic
import Derived.BigQuiet
import Derived.WalkKit
import Derived.Test.YtglbmiadgdadfaaProg
namespace Go.Proofs.Ytglbmiadgdadfaa
open Go.RowKit

theorem wp_region_below {P : Program} {id : Nat} {Q : Exit → Act → World → Prop} {a : Act} {w : World} {l : List Oper} (B : Nat) (w0 : World) (hm : P.follows .mixedOrders = true) (hl : Region.lexB .any l.toArray = true)
    (hw : Below B w0 w) (h : wpQuiet P l.toArray (fun W => Below B w0 W) (fun a' => ∀ w', Below B w0 w' → Q .normal a' w') l a) : (Code.region id l.toArray true).wp P Q a w :=
  wp_region_quiet (C := fun W => Below B w0 W) hm hl hw.drew (by simpa using h)

/-- A callee's contract, met in whatever world of the class. -/
theorem Calls.below_of {P : Program} {f : FuncId} {args : Array Value} {w0 W : World} {v : Value} (hW : Below w0.heap.size w0 W)
    (h : Calls P f args W fun e w' => e = .returned v ∧ Below W.heap.size W w') : Calls P f args W fun e w'' => e = .returned v ∧ Below w0.heap.size w0 w'' :=
  h.mono fun _ _ ⟨he, hb⟩ => ⟨he, hW.trans (hb.mono hW.size)⟩
theorem Calls.below_same {P : Program} {f : FuncId} {args : Array Value} {w0 W : World} {v : Value} (hW : Below w0.heap.size w0 W)
    (h : Calls P f args W fun e w' => e = .returned v ∧ W = w') : Calls P f args W fun e w'' => e = .returned v ∧ Below w0.heap.size w0 w'' :=
  h.mono fun _ _ ⟨he, hb⟩ => ⟨he, hb ▸ hW⟩
/-- The load of one cell that reads alike in every world of the class. -/
theorem quiet_load {P : Program} {o : Oper} {a : Act} {C : World → Prop} {K : Act → Prop} (t : TypeId) (x : Operand) (ho : o.op = .load t x) (p : Addr) (hx : a.eval x = .pointer (some p)) (v : Value)
    (hagg : ∀ W, (isAgg t).run P W = .ok false W) (hc : ∀ W, C W → W.cell? p = some v) (hk : K (a.put o.dst v)) : o.quiet P a C K := by
  refine ⟨v, fun W hW => ?_, hk⟩
  have hr : (execOp a.eval o).run P W = .ok (.value v) W := by
    unfold execOp
    simp only [ho, hx, Instr.loadAt, Instr.sureAddr, Sem.run_bind, Sem.run_pure, Result.andThen_ok, loadVar, hagg, Bool.false_eq_true, if_false, run_load, hc W hW]
  unfold Oper.quietAt
  rw [hr]
  exact ⟨rfl, rfl⟩
end Go.Proofs.Ytglbmiadgdadfaa
