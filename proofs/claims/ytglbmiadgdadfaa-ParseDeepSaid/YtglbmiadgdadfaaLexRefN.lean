/- The document's answers for layer 4: Kept, Name. -/
import Derived.Test.YtglbmiadgdadfaaLexRefW
namespace Go.Proofs.Ytglbmiadgdadfaa
open Go.RowKit

attribute [local go_sem] Oper.semAt_some
/-- The row of the keywords, as a block. -/
def kwV : List Value := LX.kws.map fun k => .string ⟨k.toArray⟩
theorem kwV_get {k : Nat} (h : k < 17) : ∃ l, LX.kws[k]? = some l ∧ kwV[k]? = some (.string ⟨l.toArray⟩) := by
  have hk : k < LX.kws.length := h
  refine ⟨LX.kws[k], List.getElem?_eq_getElem hk, ?_⟩
  unfold kwV
  rw [List.getElem?_map, List.getElem?_eq_getElem hk]; rfl

/-- May the name be an r and digits, as far as k? -/
def dgF (l : List UInt8) (k : Nat) : Bool := decide (1 < l.length) && (l[0]? == some 114) && ((l.take k).drop 1).all LX.digB
theorem dgF_step {l : List UInt8} {k : Nat} (h1 : 1 ≤ k) (hk : k < l.length) : dgF l (k + 1) = (dgF l k && LX.digB (l[k]'hk)) := by
  unfold dgF
  rw [List.take_succ_eq_append_getElem hk, List.drop_append, List.all_append, List.length_take, show 1 - min k l.length = 0 by omega, List.drop_zero]
  simp [Bool.and_assoc]
theorem dgF_end (l : List UInt8) : dgF l l.length = (l[0]? == some 114 && LX.cons LX.inN (l.drop 1)) := by
  unfold dgF
  rw [List.take_length, Bool.eq_iff_iff]
  simp only [Bool.and_eq_true, decide_eq_true_eq, LX.consN_iff, List.length_drop]
  constructor
  · rintro ⟨⟨h1, h2⟩, h3⟩; exact ⟨h2, h3, by omega⟩
  · rintro ⟨h1, h2, h3⟩; exact ⟨⟨by omega, h1⟩, h2⟩

end Go.Proofs.Ytglbmiadgdadfaa
